/- The document's Cut. -/
import Derived.Test.YtjnhcanohefjiaaGreatDoorRjRewind
namespace Go.Proofs.YtjnhcanohefjiaaGreatDoor
open Go.RowKit Go.Sort Go.Maps

set_option maxRecDepth 100000 in
set_option maxHeartbeats 4000000 in
theorem rcut_dead {w : World} {d : Dev} {x : RD} {al ea : Option Addr} {cl ec : Nat} {J : Jr} {M : Nat → Prop} (hs : RSt w d x al cl) (hEd : EdF w M ea ec J.ends) (n : Int) (hd : J.dead ≠ 0) :
    Calls Tryz.prog 38 #[rjV J ea ec, rdV x al cl, .int .i64 n] w (RjdTo w M (cutD d J n) (cutJ d J n) (cutE d J n)) := by
  have e1 : cutE d J n = J.dead := if_pos hd
  have e2 : cutD d J n = d := if_pos hd
  have e3 : cutJ d J n = J := if_pos hd
  rw [e1, e2, e3]
  clear e1 e2 e3

  have HF : Hid (∀ V', Below w.heap.size w V' → RjdTo w M d J J.dead (.returned (.tuple #[rjV J ea ec, rdV x al cl, .int .i64 (J.dead : Nat)])) V') := fun V' hb => rjd_same hs hEd hb
  clear hs hEd
  unfold rjV rdV rdC at *

  obtain ⟨W, hW⟩ : ∃ W, W = (((w.alloc (.cells #[.int .i64 J.a.g, .int .i64 J.a.f, .int .i64 J.a.s, .int .u64 J.ep, .string (bs J.row), .slice ea J.ends.length ec, .int .i64 (J.upto J.sf : Nat), .int .i64 (J.pss.length - J.sf : Nat), .int .i64 (J.dead : Nat)] 43)).alloc (.cells #[.int .i64 x.r, .int .i64 x.s, .slice al x.l.length cl, .bool x.crashed, .bool x.armed, .int .i64 x.left] 33)).alloc (.cells #[.int .i64 0, .int .i64 0, .int .i64 0, .int .u64 0, .string ⟨#[]⟩, .slice none 0 0, .int .i64 0, .int .i64 0, .int .i64 0] 43)).alloc (.cells #[.int .i64 0, .int .i64 0, .slice none 0 0, .bool false, .bool false, .int .i64 0] 33) := ⟨_, rfl⟩
  have hWf := four_at w (.cells #[.int .i64 J.a.g, .int .i64 J.a.f, .int .i64 J.a.s, .int .u64 J.ep, .string (bs J.row), .slice ea J.ends.length ec, .int .i64 (J.upto J.sf : Nat), .int .i64 (J.pss.length - J.sf : Nat), .int .i64 (J.dead : Nat)] 43) (.cells #[.int .i64 x.r, .int .i64 x.s, .slice al x.l.length cl, .bool x.crashed, .bool x.armed, .int .i64 x.left] 33) (.cells #[.int .i64 0, .int .i64 0, .int .i64 0, .int .u64 0, .string ⟨#[]⟩, .slice none 0 0, .int .i64 0, .int .i64 0, .int .i64 0] 43) (.cells #[.int .i64 0, .int .i64 0, .slice none 0 0, .bool false, .bool false, .int .i64 0] 33)
  rw [← hW] at hWf
  obtain ⟨q1, q2, q3, q4, q5⟩ := hWf
  have HX : Hid (Four w W #[.int .i64 J.a.g, .int .i64 J.a.f, .int .i64 J.a.s, .int .u64 J.ep, .string (bs J.row), .slice ea J.ends.length ec, .int .i64 (J.upto J.sf : Nat), .int .i64 (J.pss.length - J.sf : Nat), .int .i64 (J.dead : Nat)] #[.int .i64 x.r, .int .i64 x.s, .slice al x.l.length cl, .bool x.crashed, .bool x.armed, .int .i64 x.left]) := ⟨q1, q2, q3, q4, q5⟩
  have HW := Lib.hid hW
  clear hW q1 q2 q3 q4 q5

  generalize J.a.g = g at *
  generalize J.a.f = f at *
  generalize J.a.s = s at *
  generalize J.ep = ep at *
  generalize bs J.row = RR at *
  generalize J.ends.length = en at *
  generalize J.upto J.sf = sf at *
  generalize J.pss.length - J.sf = wt at *
  generalize J.dead = dd at *

  generalize x.l.length = L1 at *
  generalize x.r = r at *
  generalize x.s = s9 at *
  generalize x.crashed = cr at *
  generalize x.armed = ar at *
  generalize x.left = lf at *

  have hd1 : ((dd : Int) == 0) = false := by simpa using hd

  obtain ⟨y0, y1, y2, y3, y4, y5, y6, y7, y8⟩ := rj_cells HX.out.j
  have GL : Hid (∀ V, Two (w.heap.size + 1 + 1) (w.heap.size + 1 + 1 + 1) W V → (Instr.loadAt 43 (.pointer (some ⟨w.heap.size, 0, none⟩))).run Tryz.prog V = .ok (.agg #[.int .i64 g, .int .i64 f, .int .i64 s, .int .u64 ep, .string RR, .slice ea en ec, .int .i64 (sf : Nat), .int .i64 (wt : Nat), .int .i64 (dd : Nat)]) V) := fun V hV => load_rj (hV.at HX.out.j (by omega) (by omega)) rfl
  have GD : Hid (∀ V, Two (w.heap.size + 1 + 1) (w.heap.size + 1 + 1 + 1) W V → (Instr.loadAt 33 (.pointer (some ⟨w.heap.size + 1, 0, none⟩))).run Tryz.prog V = .ok (.agg #[.int .i64 r, .int .i64 s9, .slice al L1 cl, .bool cr, .bool ar, .int .i64 lf]) V) := fun V hV => load_rd (hV.at HX.out.d (by omega) (by omega)) rfl
  have G8 : Hid (∀ V, Two (w.heap.size + 1 + 1) (w.heap.size + 1 + 1 + 1) W V → V.cell? ⟨w.heap.size, 8, none⟩ = some (.int .i64 (dd : Nat))) := fun V hV => cell_of (hV.at HX.out.j (by omega) (by omega)) rfl

  obtain ⟨V1, hs1, hp1⟩ := put_rj (w := W.drew) (cs := #[.int .i64 g, .int .i64 f, .int .i64 s, .int .u64 ep, .string RR, .slice ea en ec, .int .i64 (sf : Nat), .int .i64 (wt : Nat), .int .i64 (dd : Nat)]) HX.out.oj rfl rfl (rj_one _ _ _ _ _ _ _ _ _ _ _)
  obtain ⟨V2, hs2, hp2⟩ := put_rd (w := V1) (cs := #[.int .i64 r, .int .i64 s9, .slice al L1 cl, .bool cr, .bool ar, .int .i64 lf]) ((hp1.far _ (by omega)).trans HX.out.od) rfl rfl (six_one _ _ _ _ _ _ _ _)
  have hS1 : Two (w.heap.size + 1 + 1) (w.heap.size + 1 + 1 + 1) W V1 := (Two.drew _ _ _).put hp1 (.inl rfl)
  have hS2 : Two (w.heap.size + 1 + 1) (w.heap.size + 1 + 1 + 1) W V2 := hS1.put hp2 (.inr rfl)
  have hBv : Below w.heap.size w V2 := hS2.below HX.out.bw HX.out.bw.size (by omega) (by omega)
  have HE := Lib.hid (And.intro ((hp2.far _ (by omega)).trans hp1.blk : V2.heap[w.heap.size + 1 + 1]? = some (.cells #[.int .i64 g, .int .i64 f, .int .i64 s, .int .u64 ep, .string RR, .slice ea en ec, .int .i64 (sf : Nat), .int .i64 (wt : Nat), .int .i64 (dd : Nat)] 43 (0, 0))) (And.intro hp2.blk (HF.out V2 hBv)))
  clear hp1 hp2 hBv

  clear HF
  go_enter Tryz.func38, Tryz.ntmps38
  go_wp2_with fail
  rw [← HW.out]
  go_wp2_with fail
  refine wp_region_noPanic ?_
  refine wp_region_held_drew (S := fun V => Two (w.heap.size + 1 + 1) (w.heap.size + 1 + 1 + 1) W V) (by kernel_rfl) (Two.drew _ _ _) (fun hHeld => ?_)
  refine tk 0 (.agg #[.int .i64 g, .int .i64 f, .int .i64 s, .int .u64 ep, .string RR, .slice ea en ec, .int .i64 (sf : Nat), .int .i64 (wt : Nat), .int .i64 (dd : Nat)]) (hy := (yields_load (by rfl) 43 _ (by rfl) _ _ (by rfl) (GL.out))) (h := ?_)
  refine tk 1 (.agg #[.int .i64 r, .int .i64 s9, .slice al L1 cl, .bool cr, .bool ar, .int .i64 lf]) (hy := (yields_load (by rfl) 33 _ (by rfl) _ _ (by rfl) (GD.out))) (h := ?_)
  refine tk 2 (.pointer (some ⟨w.heap.size, 8, none⟩)) (h := ?_)
  refine take_at 3 (.int .i64 (dd : Nat)) rfl (by kernel_rfl) (by kernel_rfl) (by kernel_rfl) (fun _ _ _ h => h) (Or.inl ⟨by rfl, ?_⟩) (by assumption) ?_
  · intro V hSV; have e0 := G8.out V hSV; go_simp
  simp only [Act.put, List.setIfInBounds_toArray, List.set_cons_zero, List.set_cons_succ]

  refine ready_store 4 rfl (by kernel_rfl) (by rfl) 43 _ _ (by rfl) _ _ (by rfl) (by rfl) hs1 hS1 ?_
  refine ready_store 5 rfl (by kernel_rfl) (by rfl) 33 _ _ (by rfl) _ _ (by rfl) (by rfl) hs2 hS2 ?_
  refine tk 6 (.int .i64 (dd : Nat)) (h := ?_)
  refine wpAnyH_done (by kernel_rfl) ?_ _
  refine NoPanic.normal ?_
  go_wp2_with fail
  exact bodyPost_ret (results_jd rfl _ _ (w.heap.size + 1 + 1) (w.heap.size + 1 + 1 + 1) _ _ (.int .i64 (dd : Nat)) rfl rfl rfl HE.out.1 rfl HE.out.2.1 rfl) rfl HE.out.2.2
set_option maxRecDepth 100000 in
set_option maxHeartbeats 4000000 in
theorem rcut_bad {w : World} {d : Dev} {x : RD} {al ea : Option Addr} {cl ec : Nat} {J : Jr} {M : Nat → Prop} (hs : RSt w d x al cl) (hEd : EdF w M ea ec J.ends) (hok : okJ J) (n : Int) (hd : J.dead = 0) (hbad : cutBad J n) :
    Calls Tryz.prog 38 #[rjV J ea ec, rdV x al cl, .int .i64 n] w (RjdTo w M (cutD d J n) (cutJ d J n) (cutE d J n)) := by
  have hd' : ¬ J.dead ≠ 0 := fun e => e hd
  have e1 : cutE d J n = 1 := by unfold cutE; rw [if_neg hd', if_pos hbad]
  have e2 : cutD d J n = d := by unfold cutD; rw [if_neg hd', if_pos hbad]
  have e3 : cutJ d J n = J := by unfold cutJ; rw [if_neg hd', if_pos hbad]
  rw [e1, e2, e3]
  have HF : Hid (∀ V', Below w.heap.size w V' → RjdTo w M d J 1 (.returned (.tuple #[rjV J ea ec, rdV x al cl, .int .i64 1])) V') := fun V' hb => rjd_same (E := 1) hs hEd hb
  have hel := ends_len J
  have hsf := hok.sf
  have hcn := hok.count
  unfold cutBad at hbad
  rw [← hel] at hbad hsf hcn
  have hw2 : J.sf ≠ J.ends.length → 0 < J.pss.length - J.sf := fun q => by rw [hel] at q hsf; omega
  clear hs hEd hd' e1 e2 e3 hok hel
  unfold rjV rdV rdC at *

  obtain ⟨W, hW⟩ : ∃ W, W = (((w.alloc (.cells #[.int .i64 J.a.g, .int .i64 J.a.f, .int .i64 J.a.s, .int .u64 J.ep, .string (bs J.row), .slice ea J.ends.length ec, .int .i64 (J.upto J.sf : Nat), .int .i64 (J.pss.length - J.sf : Nat), .int .i64 (J.dead : Nat)] 43)).alloc (.cells #[.int .i64 x.r, .int .i64 x.s, .slice al x.l.length cl, .bool x.crashed, .bool x.armed, .int .i64 x.left] 33)).alloc (.cells #[.int .i64 0, .int .i64 0, .int .i64 0, .int .u64 0, .string ⟨#[]⟩, .slice none 0 0, .int .i64 0, .int .i64 0, .int .i64 0] 43)).alloc (.cells #[.int .i64 0, .int .i64 0, .slice none 0 0, .bool false, .bool false, .int .i64 0] 33) := ⟨_, rfl⟩
  have hWf := four_at w (.cells #[.int .i64 J.a.g, .int .i64 J.a.f, .int .i64 J.a.s, .int .u64 J.ep, .string (bs J.row), .slice ea J.ends.length ec, .int .i64 (J.upto J.sf : Nat), .int .i64 (J.pss.length - J.sf : Nat), .int .i64 (J.dead : Nat)] 43) (.cells #[.int .i64 x.r, .int .i64 x.s, .slice al x.l.length cl, .bool x.crashed, .bool x.armed, .int .i64 x.left] 33) (.cells #[.int .i64 0, .int .i64 0, .int .i64 0, .int .u64 0, .string ⟨#[]⟩, .slice none 0 0, .int .i64 0, .int .i64 0, .int .i64 0] 43) (.cells #[.int .i64 0, .int .i64 0, .slice none 0 0, .bool false, .bool false, .int .i64 0] 33)
  rw [← hW] at hWf
  obtain ⟨q1, q2, q3, q4, q5⟩ := hWf
  have HX : Hid (Four w W #[.int .i64 J.a.g, .int .i64 J.a.f, .int .i64 J.a.s, .int .u64 J.ep, .string (bs J.row), .slice ea J.ends.length ec, .int .i64 (J.upto J.sf : Nat), .int .i64 (J.pss.length - J.sf : Nat), .int .i64 (J.dead : Nat)] #[.int .i64 x.r, .int .i64 x.s, .slice al x.l.length cl, .bool x.crashed, .bool x.armed, .int .i64 x.left]) := ⟨q1, q2, q3, q4, q5⟩
  have HW := Lib.hid hW
  clear hW q1 q2 q3 q4 q5

  generalize J.a.g = g at *
  generalize J.a.f = f at *
  generalize J.a.s = s at *
  generalize J.ep = ep at *
  generalize bs J.row = RR at *
  generalize J.ends.length = en at *
  generalize J.upto J.sf = sf at *
  generalize J.pss.length - J.sf = wt at *
  generalize J.dead = dd at *

  generalize x.l.length = L1 at *
  generalize x.r = r at *
  generalize x.s = s9 at *
  generalize x.crashed = cr at *
  generalize x.armed = ar at *
  generalize x.left = lf at *

  have hd1 : ((dd : Int) == 0) = true := by simp [hd]
  obtain ⟨y0, y1, y2, y3, y4, y5, y6, y7, y8⟩ := rj_cells HX.out.j
  have GL : Hid (∀ V, Two (w.heap.size + 1 + 1) (w.heap.size + 1 + 1 + 1) W V → (Instr.loadAt 43 (.pointer (some ⟨w.heap.size, 0, none⟩))).run Tryz.prog V = .ok (.agg #[.int .i64 g, .int .i64 f, .int .i64 s, .int .u64 ep, .string RR, .slice ea en ec, .int .i64 (sf : Nat), .int .i64 (wt : Nat), .int .i64 (dd : Nat)]) V) := fun V hV => load_rj (hV.at HX.out.j (by omega) (by omega)) rfl
  have GD : Hid (∀ V, Two (w.heap.size + 1 + 1) (w.heap.size + 1 + 1 + 1) W V → (Instr.loadAt 33 (.pointer (some ⟨w.heap.size + 1, 0, none⟩))).run Tryz.prog V = .ok (.agg #[.int .i64 r, .int .i64 s9, .slice al L1 cl, .bool cr, .bool ar, .int .i64 lf]) V) := fun V hV => load_rd (hV.at HX.out.d (by omega) (by omega)) rfl

  obtain ⟨V1, hs1, hp1⟩ := put_rj (w := W.drew) (cs := #[.int .i64 g, .int .i64 f, .int .i64 s, .int .u64 ep, .string RR, .slice ea en ec, .int .i64 (sf : Nat), .int .i64 (wt : Nat), .int .i64 (dd : Nat)]) HX.out.oj rfl rfl (rj_one _ _ _ _ _ _ _ _ _ _ _)
  obtain ⟨V2, hs2, hp2⟩ := put_rd (w := V1) (cs := #[.int .i64 r, .int .i64 s9, .slice al L1 cl, .bool cr, .bool ar, .int .i64 lf]) ((hp1.far _ (by omega)).trans HX.out.od) rfl rfl (six_one _ _ _ _ _ _ _ _)
  have hS1 : Two (w.heap.size + 1 + 1) (w.heap.size + 1 + 1 + 1) W V1 := (Two.drew _ _ _).put hp1 (.inl rfl)
  have hS2 : Two (w.heap.size + 1 + 1) (w.heap.size + 1 + 1 + 1) W V2 := hS1.put hp2 (.inr rfl)
  have hBv : Below w.heap.size w V2 := hS2.below HX.out.bw HX.out.bw.size (by omega) (by omega)
  have HE := Lib.hid (And.intro ((hp2.far _ (by omega)).trans hp1.blk : V2.heap[w.heap.size + 1 + 1]? = some (.cells #[.int .i64 g, .int .i64 f, .int .i64 s, .int .u64 ep, .string RR, .slice ea en ec, .int .i64 (sf : Nat), .int .i64 (wt : Nat), .int .i64 (dd : Nat)] 43 (0, 0))) (And.intro hp2.blk (HF.out V2 hBv)))
  clear hp1 hp2 hBv

  clear HF hd
  by_cases c1 : n < 0
  · clear hbad hw2
    go_enter Tryz.func38, Tryz.ntmps38
    go_wp2_with fail
    rw [← HW.out]
    go_wp2_with fail
    refine wp_region_noPanic ?_
    refine wp_region_held_drew (S := fun V => Two (w.heap.size + 1 + 1) (w.heap.size + 1 + 1 + 1) W V) (by kernel_rfl) (Two.drew _ _ _) (fun hHeld => ?_)
    refine tk 0 (.agg #[.int .i64 g, .int .i64 f, .int .i64 s, .int .u64 ep, .string RR, .slice ea en ec, .int .i64 (sf : Nat), .int .i64 (wt : Nat), .int .i64 (dd : Nat)]) (hy := (yields_load (by rfl) 43 _ (by rfl) _ _ (by rfl) (GL.out))) (h := ?_)
    refine tk 1 (.agg #[.int .i64 r, .int .i64 s9, .slice al L1 cl, .bool cr, .bool ar, .int .i64 lf]) (hy := (yields_load (by rfl) 33 _ (by rfl) _ _ (by rfl) (GD.out))) (h := ?_)

    refine ready_store 2 rfl (by kernel_rfl) (by rfl) 43 _ _ (by rfl) _ _ (by rfl) (by rfl) hs1 hS1 ?_
    refine ready_store 3 rfl (by kernel_rfl) (by rfl) 33 _ _ (by rfl) _ _ (by rfl) (by rfl) hs2 hS2 ?_
    refine tk 4 (.int .i64 1) (h := ?_)
    refine wpAnyH_done (by kernel_rfl) ?_ _
    refine NoPanic.normal ?_
    go_wp2_with fail
    exact bodyPost_ret (results_jd rfl _ _ (w.heap.size + 1 + 1) (w.heap.size + 1 + 1 + 1) _ _ (.int .i64 1) rfl rfl rfl HE.out.1 rfl HE.out.2.1 rfl) rfl HE.out.2.2

  · by_cases c2 : n > (en : Int)
    · clear hbad hw2
      go_enter Tryz.func38, Tryz.ntmps38
      go_wp2_with fail
      rw [← HW.out]
      go_wp2_with fail
      refine wp_region_noPanic ?_
      refine wp_region_held_drew (S := fun V => Two (w.heap.size + 1 + 1) (w.heap.size + 1 + 1 + 1) W V) (by kernel_rfl) (Two.drew _ _ _) (fun hHeld => ?_)
      refine tk 0 (.agg #[.int .i64 g, .int .i64 f, .int .i64 s, .int .u64 ep, .string RR, .slice ea en ec, .int .i64 (sf : Nat), .int .i64 (wt : Nat), .int .i64 (dd : Nat)]) (hy := (yields_load (by rfl) 43 _ (by rfl) _ _ (by rfl) (GL.out))) (h := ?_)
      refine tk 1 (.agg #[.int .i64 r, .int .i64 s9, .slice al L1 cl, .bool cr, .bool ar, .int .i64 lf]) (hy := (yields_load (by rfl) 33 _ (by rfl) _ _ (by rfl) (GD.out))) (h := ?_)

      refine ready_store 2 rfl (by kernel_rfl) (by rfl) 43 _ _ (by rfl) _ _ (by rfl) (by rfl) hs1 hS1 ?_
      refine ready_store 3 rfl (by kernel_rfl) (by rfl) 33 _ _ (by rfl) _ _ (by rfl) (by rfl) hs2 hS2 ?_
      refine tk 4 (.int .i64 1) (h := ?_)
      refine wpAnyH_done (by kernel_rfl) ?_ _
      refine NoPanic.normal ?_
      go_wp2_with fail
      exact bodyPost_ret (results_jd rfl _ _ (w.heap.size + 1 + 1) (w.heap.size + 1 + 1 + 1) _ _ (.int .i64 1) rfl rfl rfl HE.out.1 rfl HE.out.2.1 rfl) rfl HE.out.2.2

    · have hw : (wt : Int) > 0 := by
        have q := hw2 (by rcases hbad with q | q | q; exact absurd q c1; exact absurd q c2; exact q)
        omega
      clear hbad hw2
      go_enter Tryz.func38, Tryz.ntmps38
      go_wp2_with fail
      rw [← HW.out]
      go_wp2_with fail
      refine wp_region_noPanic ?_
      refine wp_region_held_drew (S := fun V => Two (w.heap.size + 1 + 1) (w.heap.size + 1 + 1 + 1) W V) (by kernel_rfl) (Two.drew _ _ _) (fun hHeld => ?_)
      refine tk 0 (.agg #[.int .i64 g, .int .i64 f, .int .i64 s, .int .u64 ep, .string RR, .slice ea en ec, .int .i64 (sf : Nat), .int .i64 (wt : Nat), .int .i64 (dd : Nat)]) (hy := (yields_load (by rfl) 43 _ (by rfl) _ _ (by rfl) (GL.out))) (h := ?_)
      refine tk 1 (.agg #[.int .i64 r, .int .i64 s9, .slice al L1 cl, .bool cr, .bool ar, .int .i64 lf]) (hy := (yields_load (by rfl) 33 _ (by rfl) _ _ (by rfl) (GD.out))) (h := ?_)

      refine ready_store 2 rfl (by kernel_rfl) (by rfl) 43 _ _ (by rfl) _ _ (by rfl) (by rfl) hs1 hS1 ?_
      refine ready_store 3 rfl (by kernel_rfl) (by rfl) 33 _ _ (by rfl) _ _ (by rfl) (by rfl) hs2 hS2 ?_
      refine tk 4 (.int .i64 1) (h := ?_)
      refine wpAnyH_done (by kernel_rfl) ?_ _
      refine NoPanic.normal ?_
      go_wp2_with fail
      exact bodyPost_ret (results_jd rfl _ _ (w.heap.size + 1 + 1) (w.heap.size + 1 + 1 + 1) _ _ (.int .i64 1) rfl rfl rfl HE.out.1 rfl HE.out.2.1 rfl) rfl HE.out.2.2
set_option maxRecDepth 100000 in
set_option maxHeartbeats 4000000 in
theorem rcut_ok {w : World} {d : Dev} {x : RD} {al ea : Option Addr} {cl ec : Nat} {J : Jr} {M : Nat → Prop} (hs : RSt w d x al cl) (hEd : EdF w M ea ec J.ends) (hok : okJ J) (hc : Calm d J) (n : Nat) (hn : n ≤ J.pss.length) (hsf : J.sf = J.pss.length) :
    Calls Tryz.prog 38 #[rjV J ea ec, rdV x al cl, .int .i64 n] w (RjdTo w M (cleanD J.a (allB J.ep (J.pss.take n)) d) ⟨J.a, J.ep, J.pss.take n, n, cleanE J.a (allB J.ep (J.pss.take n)) d⟩ (cleanE J.a (allB J.ep (J.pss.take n)) d)) := by
  have hd := hc.alive
  have hre : rErr d (J.a.g, J.a.f) = 0 := by
    have q := inJ_has hc.inn (i := 0) (by have := hc.inn.2.2.2.1; omega)
    have e : atJ J.a 0 = (J.a.g, J.a.f) := by simp [atJ]
    rw [e] at q
    unfold rErr
    rw [if_neg (fun e => e q), if_neg (by simp [hc.cr])]
  have HRd : Hid (∀ V, Below w.heap.size w V → Calls Tryz.prog 29 #[rdV x al cl, .int .i64 J.a.g, .int .i64 J.a.f] V fun e w' => e = .returned (.tuple #[.string (bs (readD d (J.a.g, J.a.f))), .int .i64 0]) ∧ Below V.heap.size V w') := fun V hV => by
    have q := rreadT x d (J.a.g, J.a.f) (hs.ls.on hV) hs.tie hs.len
    rw [hre, if_pos rfl] at q
    exact q
  have hup := upto_le J n
  have hut := upto_take J n
  have hrl := hok.row_le
  have hel := ends_len J
  have hcn := hok.count
  have hge : n ≠ 0 → J.ends.getD (n - 1) 0 = J.upto n := fun q => ends_get J n q hn
  have hu0 : n = 0 → J.upto n = 0 := fun q => by rw [q]; exact upto_zero J
  have hlen : (allB J.ep (J.pss.take n)).length = J.upto n := rfl
  have HCl0 : Hid (∀ V, Below w.heap.size w V → Calls Tryz.prog 31 #[rdV x al cl, arV J.a, .string (bs (allB J.ep (J.pss.take n)))] V (RclTo V J.a (allB J.ep (J.pss.take n)) d)) := fun V hV => rclean_ x al cl d J.a _ (hs.ls.on hV) hs.tie hs.ok hs.rs hs.lf hc.pend hc.cr hc.inn (hok.cutByte n) (cut_begins hc hsf n) (by rw [hlen]; exact Nat.le_trans hup hok.len)
  have he2 : endsL J.ep (J.pss.take n) = J.ends.take n := endsL_take _ _ _ hn
  have HF : Hid (∀ (V' : World) x' a' c', LstS V' a' c' x'.l → Tie (cleanD J.a (allB J.ep (J.pss.take n)) d) x' → Below w.heap.size w V' → RjdTo w M (cleanD J.a (allB J.ep (J.pss.take n)) d) ⟨J.a, J.ep, J.pss.take n, n, cleanE J.a (allB J.ep (J.pss.take n)) d⟩ (cleanE J.a (allB J.ep (J.pss.take n)) d) (.returned (.tuple #[.agg #[.int .i64 J.a.g, .int .i64 J.a.f, .int .i64 J.a.s, .int .u64 J.ep, .string (bs (allB J.ep (J.pss.take n))), .slice ea n n, .int .i64 (J.upto n : Nat), .int .i64 0, .int .i64 (cleanE J.a (allB J.ep (J.pss.take n)) d : Nat)], rdV x' a' c', .int .i64 (cleanE J.a (allB J.ep (J.pss.take n)) d : Nat)])) V') := fun V' x' a' c' hl ht hb => by
    refine ⟨x', a', c', ea, n, ?_, hl, ht, ⟨?_, ?_⟩, hb⟩
    · have q1 : (⟨J.a, J.ep, J.pss.take n, n, cleanE J.a (allB J.ep (J.pss.take n)) d⟩ : Jr).ends.length = n := by
        rw [ends_len]
        show (J.pss.take n).length = n
        rw [List.length_take]; omega
      have q2 : (⟨J.a, J.ep, J.pss.take n, n, cleanE J.a (allB J.ep (J.pss.take n)) d⟩ : Jr).upto n = J.upto n := by
        show (allB J.ep ((J.pss.take n).take n)).length = _
        rw [List.take_take, Nat.min_self]; rfl
      have q3 : (J.pss.take n).length - n = 0 := by rw [List.length_take]; omega
      unfold rjV
      show _ = Ending.returned (.tuple #[.agg #[.int .i64 J.a.g, .int .i64 J.a.f, .int .i64 J.a.s, .int .u64 J.ep, .string (bs (allB J.ep (J.pss.take n))), .slice ea (⟨J.a, J.ep, J.pss.take n, n, cleanE J.a (allB J.ep (J.pss.take n)) d⟩ : Jr).ends.length n, .int .i64 ((⟨J.a, J.ep, J.pss.take n, n, cleanE J.a (allB J.ep (J.pss.take n)) d⟩ : Jr).upto n : Nat), .int .i64 ((J.pss.take n).length - n : Nat), .int .i64 (cleanE J.a (allB J.ep (J.pss.take n)) d : Nat)], rdV x' a' c', .int .i64 (cleanE J.a (allB J.ep (J.pss.take n)) d : Nat)])
      rw [q1, q2, q3]; rfl
    · show EndsF V' M ea (endsL J.ep (J.pss.take n))
      rw [he2]
      exact (hEd.ends.on hb).take n
    · show (endsL J.ep (J.pss.take n)).length ≤ n
      rw [endsL_length, List.length_take]; omega
  have HS8 : Hid (∀ V, (Instr.sliceAt 41 (.slice ea J.ends.length ec) none (some (.int .i64 (n : Int))) (some (.int .i64 (n : Int)))).run Tryz.prog V = .ok (.slice ea n n) V) := fun V => slice_hm hEd J.ends.length n (by rw [hel]; exact hn) V
  have hex : (bs J.row).extract 0 (J.upto n) = bs (allB J.ep (J.pss.take n)) := by rw [bs_take, hut]
  have hsz : (bs J.row).size = J.row.length := bs_size _
  have hwt : J.pss.length - J.sf = 0 := by omega
  have HEd := Lib.hid hEd.ends
  have hne : n ≤ J.ends.length ∧ J.ends.length ≤ 1048576 := by rw [hel]; exact ⟨hn, hcn⟩
  unfold RclTo arV at HCl0
  clear hs hc hre hEd hok hut hel hlen he2 hn hsf
  unfold rjV
  generalize (⟨J.a, J.ep, J.pss.take n, n, cleanE J.a (allB J.ep (J.pss.take n)) d⟩ : Jr) = J2 at *
  generalize cleanE J.a (allB J.ep (J.pss.take n)) d = E at *
  generalize cleanD J.a (allB J.ep (J.pss.take n)) d = d1 at *
  generalize bs (allB J.ep (J.pss.take n)) = R2 at *
  generalize bs (readD d (J.a.g, J.a.f)) = ss at *
  unfold rdV rdC at *

  obtain ⟨W, hW⟩ : ∃ W, W = (((w.alloc (.cells #[.int .i64 J.a.g, .int .i64 J.a.f, .int .i64 J.a.s, .int .u64 J.ep, .string (bs J.row), .slice ea J.ends.length ec, .int .i64 (J.upto J.sf : Nat), .int .i64 (J.pss.length - J.sf : Nat), .int .i64 (J.dead : Nat)] 43)).alloc (.cells #[.int .i64 x.r, .int .i64 x.s, .slice al x.l.length cl, .bool x.crashed, .bool x.armed, .int .i64 x.left] 33)).alloc (.cells #[.int .i64 0, .int .i64 0, .int .i64 0, .int .u64 0, .string ⟨#[]⟩, .slice none 0 0, .int .i64 0, .int .i64 0, .int .i64 0] 43)).alloc (.cells #[.int .i64 0, .int .i64 0, .slice none 0 0, .bool false, .bool false, .int .i64 0] 33) := ⟨_, rfl⟩
  have hWf := four_at w (.cells #[.int .i64 J.a.g, .int .i64 J.a.f, .int .i64 J.a.s, .int .u64 J.ep, .string (bs J.row), .slice ea J.ends.length ec, .int .i64 (J.upto J.sf : Nat), .int .i64 (J.pss.length - J.sf : Nat), .int .i64 (J.dead : Nat)] 43) (.cells #[.int .i64 x.r, .int .i64 x.s, .slice al x.l.length cl, .bool x.crashed, .bool x.armed, .int .i64 x.left] 33) (.cells #[.int .i64 0, .int .i64 0, .int .i64 0, .int .u64 0, .string ⟨#[]⟩, .slice none 0 0, .int .i64 0, .int .i64 0, .int .i64 0] 43) (.cells #[.int .i64 0, .int .i64 0, .slice none 0 0, .bool false, .bool false, .int .i64 0] 33)
  rw [← hW] at hWf
  obtain ⟨q1, q2, q3, q4, q5⟩ := hWf
  have HX : Hid (Four w W #[.int .i64 J.a.g, .int .i64 J.a.f, .int .i64 J.a.s, .int .u64 J.ep, .string (bs J.row), .slice ea J.ends.length ec, .int .i64 (J.upto J.sf : Nat), .int .i64 (J.pss.length - J.sf : Nat), .int .i64 (J.dead : Nat)] #[.int .i64 x.r, .int .i64 x.s, .slice al x.l.length cl, .bool x.crashed, .bool x.armed, .int .i64 x.left]) := ⟨q1, q2, q3, q4, q5⟩
  have HW := Lib.hid hW
  clear hW q1 q2 q3 q4 q5

  generalize hes : J.ends = es at *
  generalize J.upto n = u at *
  generalize J.row.length = L at *
  clear hes

  generalize J.a.g = g at *
  generalize J.a.f = f at *
  generalize J.a.s = s at *
  generalize J.ep = ep at *
  generalize bs J.row = RR at *
  generalize hen : es.length = en at *
  have HEN := Lib.hid hen
  clear hen
  generalize J.upto J.sf = sf at *
  generalize J.pss.length - J.sf = wt at *
  generalize J.dead = dd at *

  generalize x.l.length = L1 at *
  generalize x.r = r at *
  generalize x.s = s9 at *
  generalize x.crashed = cr at *
  generalize x.armed = ar at *
  generalize x.left = lf at *

  have hd1 : ((dd : Int) == 0) = true := by simp [hd]
  have hw1 : ¬ (wt : Int) > 0 := by omega
  clear hd hwt
  have hn0 : ¬ (n : Int) < 0 := by omega
  have hn1 : ¬ (n : Int) > (en : Int) := by omega
  have hule : decide ((u : Int) ≤ (L : Int)) = true := decide_eq_true (by omega)
  obtain ⟨y0, y1, y2, y3, y4, y5, y6, y7, y8⟩ := rj_cells HX.out.j
  have HLd := Lib.hid (load_rd HX.out.d rfl)
  go_enter Tryz.func38, Tryz.ntmps38
  go_wp2_with fail
  rw [← HW.out]
  go_wp2_with (first | (refine wpList_load_at rfl 33 _ rfl _ _ rfl HLd.out ?_) | fail)
  refine (HRd.out W HX.out.bw).mono ?_
  rintro e w2 ⟨rfl, hb2⟩
  have HX2 := Lib.hid (HX.out.on hb2)
  have HEd2 := Lib.hid ((HEd.out.on HX.out.bw).on hb2)
  clear hb2 HRd HX HW HLd y0 y1 y2 y3 y4 y5 y6 y7 y8 HEd
  obtain ⟨y0, y1, y2, y3, y4, y5, y6, y7, y8⟩ := rj_cells HX2.out.j
  have HCl := Lib.hid (fun V (hV : Below w2.heap.size w2 V) => HCl0.out V (below_step HX2.out.bw hV))
  have KD : Hid (∀ V, Below w2.heap.size w2 V → (Instr.loadAt 33 (.pointer (some ⟨w.heap.size + 1, 0, none⟩))).run Tryz.prog V = .ok (.agg #[.int .i64 r, .int .i64 s9, .slice al L1 cl, .bool cr, .bool ar, .int .i64 lf]) V) := fun V hV => load_rd (HX2.out.on hV).d rfl
  have KA : Hid (∀ V, Below w2.heap.size w2 V → (Instr.loadAt 23 (.pointer (some ⟨w.heap.size, 0, none⟩))).run Tryz.prog V = .ok (.agg #[.int .i64 g, .int .i64 f, .int .i64 s]) V) := fun V hV => load_ra (HX2.out.on hV).j
  have K4 : Hid (∀ V, Below w2.heap.size w2 V → V.cell? ⟨w.heap.size, 4, none⟩ = some (.string RR)) := fun V hV => cell_of (HX2.out.on hV).j rfl
  clear HCl0
  by_cases hz : n = 0
  · have hnz : ¬ (n : Int) > 0 := by omega
    have hu := hu0 hz
    subst hu
    have hR2e : ByteArray.empty = R2 := by rw [← hex]; simp
    clear hz hge hu0
    go_wp2_with fail
    refine wp_region_noPanic ?_
    refine wp_region_held_drew (S := fun V => Below w2.heap.size w2 V) (by kernel_rfl) (below_drew _) (fun hHeld => ?_)
    refine tk 0 (.agg #[.int .i64 r, .int .i64 s9, .slice al L1 cl, .bool cr, .bool ar, .int .i64 lf]) (hy := (yields_load (by rfl) 33 _ (by rfl) _ _ (by rfl) (KD.out))) (h := ?_)
    refine tk 1 (.pointer (some ⟨w.heap.size, 0, none⟩)) (h := ?_)
    refine tk 2 (.agg #[.int .i64 g, .int .i64 f, .int .i64 s]) (hy := (yields_load (by rfl) 23 _ (by rfl) _ _ (by rfl) (KA.out))) (h := ?_)
    refine tk 3 (.pointer (some ⟨w.heap.size, 4, none⟩)) (h := ?_)
    refine take_at 4 (.string RR) rfl (by kernel_rfl) (by kernel_rfl) (by kernel_rfl) (fun _ _ _ h => h) (Or.inl ⟨by rfl, ?_⟩) (by assumption) ?_
    · intro V hSV; have e0 := K4.out V hSV; go_simp
    simp only [Act.put, List.setIfInBounds_toArray, List.set_cons_zero, List.set_cons_succ]
    refine tk 5 (.int .i64 0) (h := ?_)
    refine tk 6 (.string R2) (h := ?_)
    clear KD KA K4

    refine wpAnyH_ready (rs := [7, 11]) (by kernel_rfl) (by simp) ?_
    refine AllReadyH.cons rfl (fun KK hK => ?_) (AllReadyH.cons rfl (fun KK hK => ?_) AllReadyH.nil)
    · go_simp
      go_wp2_with (first | (go_at_call 31; refine (HCl.out _ (below_drew _)).mono ?_; rintro e U2 ⟨x', a', c', rfl, hL2, hT2, hb2⟩))
      refine hK.out _ _ ?_ (fun hHeld7 => ?_)
      · exact below_step (below_drew _) hb2
      clear hK KK
      obtain ⟨r', s', l', cr', ar', lf'⟩ := x'
      dsimp only at hL2 hT2 ⊢
      generalize hL' : l'.length = L' at *
      have HT2 := Lib.hid (And.intro hT2 hL')
      clear hT2 hL'

      obtain ⟨U4, hst, hput⟩ := put_rd (cs := #[.int .i64 r', .int .i64 s', .slice a' L' c', .bool cr', .bool ar', .int .i64 lf']) (alloc_at U2 (.cells #[.int .i64 0, .int .i64 0, .slice none 0 0, .bool false, .bool false, .int .i64 0] 33)) rfl rfl (six_one _ _ _ _ _ _ _ _)
      have hSa : Below w2.heap.size w2 (U2.alloc (.cells #[.int .i64 0, .int .i64 0, .slice none 0 0, .bool false, .bool false, .int .i64 0] 33)) := below_step hHeld7 (below_alloc _ _)
      have hSs : Below w2.heap.size w2 U4 := hput.below hSa hHeld7.size
      obtain ⟨BX, hBX⟩ : ∃ BX, BX = U2.heap.size := ⟨_, rfl⟩
      have HU : Hid (U4.heap[BX]? = some (.cells #[.int .i64 r', .int .i64 s', .slice a' L' c', .bool cr', .bool ar', .int .i64 lf'] 33 (0, 0)) ∧ Below w2.heap.size w2 U4 ∧ LstS U4 a' c' l' ∧ w2.heap.size ≤ BX) := by rw [hBX]; exact ⟨hput.blk, hSs, (hL2.on (below_alloc U2 _)).put hput (by decide) ⟨_, _, alloc_at U2 _⟩, hHeld7.size⟩
      refine tk 8 (.tuple #[.agg #[.int .i64 r', .int .i64 s', .slice a' L' c', .bool cr', .bool ar', .int .i64 lf'], .int .i64 (E : Nat)]) (h := ?_)
      refine tk 9 (.agg #[.int .i64 r', .int .i64 s', .slice a' L' c', .bool cr', .bool ar', .int .i64 lf']) (h := ?_)
      refine tk 10 (.int .i64 (E : Nat)) (h := ?_)
      refine ready_alloc_rd 11 rfl (by kernel_rfl) (by rfl) (by rfl) hSa ?_
      refine ready_store 12 rfl (by kernel_rfl) (by rfl) 33 _ _ (by rfl) _ _ (by rfl) (by rfl) hst hSs ?_
      refine tk 13 (.int .i64 (E : Nat)) (h := ?_)
      refine wpAnyH_done (by kernel_rfl) ?_ _
      refine NoPanic.normal ?_
      rw [← hBX]
      clear hst hSa hSs hput hL2 hb2 hHeld hHeld7 hBX
      have hBq : w.heap.size + 1 + 1 + 1 < BX := by have := blk_lt HX2.out.od; have := HU.out.2.2.2; omega
      have HX := Lib.hid (HX2.out.on HU.out.2.1)
      have HF1 : Hid (∀ V2, LstS V2 a' c' l' → Below w.heap.size w V2 → RjdTo w M d1 J2 E (.returned (.tuple #[.agg #[.int .i64 g, .int .i64 f, .int .i64 s, .int .u64 ep, .string R2, .slice ea n n, .int .i64 0, .int .i64 0, .int .i64 (E : Nat)], .agg #[.int .i64 r', .int .i64 s', .slice a' L' c', .bool cr', .bool ar', .int .i64 lf'], .int .i64 (E : Nat)])) V2) := fun V2 hl hb => by
        have q := HF.out V2 ⟨r', s', l', cr', ar', lf'⟩ a' c' hl HT2.out.1 hb
        dsimp only at q
        rw [HT2.out.2] at q
        exact q

      obtain ⟨V1, hs1, hp1⟩ := put_rj (w := U4.drew) (cs := #[.int .i64 g, .int .i64 f, .int .i64 s, .int .u64 ep, .string R2, .slice ea n n, .int .i64 0, .int .i64 0, .int .i64 (E : Nat)]) HX.out.oj rfl rfl (rj_one _ _ _ _ _ _ _ _ _ _ _)
      obtain ⟨V2, hs2, hp2⟩ := put_rd (w := V1) (cs := #[.int .i64 r', .int .i64 s', .slice a' L' c', .bool cr', .bool ar', .int .i64 lf']) ((hp1.far _ (by omega)).trans HX.out.od) rfl rfl (six_one _ _ _ _ _ _ _ _)
      have hS1 : Two (w.heap.size + 1 + 1) (w.heap.size + 1 + 1 + 1) U4 V1 := (Two.drew _ _ _).put hp1 (.inl rfl)
      have hS2 : Two (w.heap.size + 1 + 1) (w.heap.size + 1 + 1 + 1) U4 V2 := hS1.put hp2 (.inr rfl)
      have hBv : Below w.heap.size w V2 := hS2.below HX.out.bw HX.out.bw.size (by omega) (by omega)
      have HE := Lib.hid (And.intro ((hp2.far _ (by omega)).trans hp1.blk : V2.heap[w.heap.size + 1 + 1]? = some (.cells #[.int .i64 g, .int .i64 f, .int .i64 s, .int .u64 ep, .string R2, .slice ea n n, .int .i64 0, .int .i64 0, .int .i64 (E : Nat)] 43 (0, 0))) (And.intro hp2.blk (HF1.out V2 (((HU.out.2.2.1.on (below_drew _)).put hp1 (by decide) ⟨_, _, HX.out.oj⟩).put hp2 (by decide) ⟨_, _, (hp1.far _ (by omega)).trans HX.out.od⟩) hBv)))
      clear hp1 hp2 hBv

      have GA : Hid (∀ V, Two (w.heap.size + 1 + 1) (w.heap.size + 1 + 1 + 1) U4 V → (Instr.loadAt 23 (.pointer (some ⟨w.heap.size, 0, none⟩))).run Tryz.prog V = .ok (.agg #[.int .i64 g, .int .i64 f, .int .i64 s]) V) := fun V hV => load_ra (hV.at HX.out.j (by omega) (by omega))
      have G3 : Hid (∀ V, Two (w.heap.size + 1 + 1) (w.heap.size + 1 + 1 + 1) U4 V → V.cell? ⟨w.heap.size, 3, none⟩ = some (.int .u64 ep)) := fun V hV => cell_of (hV.at HX.out.j (by omega) (by omega)) rfl
      have G4 : Hid (∀ V, Two (w.heap.size + 1 + 1) (w.heap.size + 1 + 1 + 1) U4 V → V.cell? ⟨w.heap.size, 4, none⟩ = some (.string RR)) := fun V hV => cell_of (hV.at HX.out.j (by omega) (by omega)) rfl
      have G5 : Hid (∀ V, Two (w.heap.size + 1 + 1) (w.heap.size + 1 + 1 + 1) U4 V → V.cell? ⟨w.heap.size, 5, none⟩ = some (.slice ea en ec)) := fun V hV => cell_of (hV.at HX.out.j (by omega) (by omega)) rfl
      have GD : Hid (∀ V, Two (w.heap.size + 1 + 1) (w.heap.size + 1 + 1 + 1) U4 V → (Instr.loadAt 33 (.pointer (some ⟨BX, 0, none⟩))).run Tryz.prog V = .ok (.agg #[.int .i64 r', .int .i64 s', .slice a' L' c', .bool cr', .bool ar', .int .i64 lf']) V) := fun V hV => load_rd (hV.at HU.out.1 (by omega) (by omega)) rfl
      clear HF HF1 HT2 HU HX HX2 hBq
      go_wp2_with fail
      refine wp_region_noPanic ?_
      refine wp_region_held_drew (S := fun V => Two (w.heap.size + 1 + 1) (w.heap.size + 1 + 1 + 1) U4 V) (by kernel_rfl) (Two.drew _ _ _) (fun hHeld => ?_)
      refine tk 0 (.pointer (some ⟨w.heap.size, 0, none⟩)) (h := ?_)
      refine tk 1 (.agg #[.int .i64 g, .int .i64 f, .int .i64 s]) (hy := (yields_load (by rfl) 23 _ (by rfl) _ _ (by rfl) (GA.out))) (h := ?_)
      refine tk 2 (.pointer (some ⟨w.heap.size, 3, none⟩)) (h := ?_)
      refine take_at 3 (.int .u64 ep) rfl (by kernel_rfl) (by kernel_rfl) (by kernel_rfl) (fun _ _ _ h => h) (Or.inl ⟨by rfl, ?_⟩) (by assumption) ?_
      · intro V hSV; have e0 := G3.out V hSV; go_simp
      simp only [Act.put, List.setIfInBounds_toArray, List.set_cons_zero, List.set_cons_succ]
      refine tk 4 (.pointer (some ⟨w.heap.size, 4, none⟩)) (h := ?_)
      refine take_at 5 (.string RR) rfl (by kernel_rfl) (by kernel_rfl) (by kernel_rfl) (fun _ _ _ h => h) (Or.inl ⟨by rfl, ?_⟩) (by assumption) ?_
      · intro V hSV; have e0 := G4.out V hSV; go_simp
      simp only [Act.put, List.setIfInBounds_toArray, List.set_cons_zero, List.set_cons_succ]
      refine tk 6 (.int .i64 0) (h := ?_)
      refine tk 7 (.string R2) (h := ?_)
      refine tk 8 (.pointer (some ⟨w.heap.size, 5, none⟩)) (h := ?_)
      refine take_at 9 (.slice ea en ec) rfl (by kernel_rfl) (by kernel_rfl) (by kernel_rfl) (fun _ _ _ h => h) (Or.inl ⟨by rfl, ?_⟩) (by assumption) ?_
      · intro V hSV; have e0 := G5.out V hSV; go_simp
      simp only [Act.put, List.setIfInBounds_toArray, List.set_cons_zero, List.set_cons_succ]
      refine tk 10 (.int .i64 (n : Nat)) (h := ?_)
      refine tk 11 (.int .i64 (n : Nat)) (h := ?_)
      refine tk 12 (.slice ea n n) (hy := (yields_slice_hm (by rfl) 41 _ _ _ (by rfl) _ _ _ _ (by rfl) (by rfl) (by rfl) (fun V => HS8.out V))) (h := ?_)
      refine tk 13 (.int .i64 0) (h := ?_)
      refine tk 14 (.int .i64 (E : Nat)) (h := ?_)
      refine tk 15 (.agg #[.int .i64 g, .int .i64 f, .int .i64 s, .int .u64 ep, .string R2, .slice ea n n, .int .i64 0, .int .i64 0, .int .i64 (E : Nat)]) (h := ?_)
      refine tk 16 (.agg #[.int .i64 r', .int .i64 s', .slice a' L' c', .bool cr', .bool ar', .int .i64 lf']) (hy := (yields_load (by rfl) 33 _ (by rfl) _ _ (by rfl) (GD.out))) (h := ?_)
      refine tk 17 (.int .i64 (E : Nat)) (h := ?_)

      refine ready_store 18 rfl (by kernel_rfl) (by rfl) 43 _ _ (by rfl) _ _ (by rfl) (by rfl) hs1 hS1 ?_
      refine ready_store 19 rfl (by kernel_rfl) (by rfl) 33 _ _ (by rfl) _ _ (by rfl) (by rfl) hs2 hS2 ?_
      refine tk 20 (.int .i64 (E : Nat)) (h := ?_)
      refine wpAnyH_done (by kernel_rfl) ?_ _
      refine NoPanic.normal ?_
      go_wp2_with fail
      exact bodyPost_ret (results_jd rfl _ _ (w.heap.size + 1 + 1) (w.heap.size + 1 + 1 + 1) _ _ (.int .i64 (E : Nat)) rfl rfl rfl HE.out.1 rfl HE.out.2.1 rfl) rfl HE.out.2.2

    · go_simp
      have hBz : Below w2.heap.size w2 (w2.alloc (.cells #[.int .i64 0, .int .i64 0, .slice none 0 0, .bool false, .bool false, .int .i64 0] 33)).drew := below_step (below_alloc _ _) (below_drew _)
      refine hK.out _ _ ?_ (fun hHeld11 => ?_)
      · exact hBz
      clear hK KK
      have hz13 : ((w2.alloc (.cells #[.int .i64 0, .int .i64 0, .slice none 0 0, .bool false, .bool false, .int .i64 0] 33)).drew).heap[w2.heap.size]? = some (.cells #[.int .i64 0, .int .i64 0, .slice none 0 0, .bool false, .bool false, .int .i64 0] 33 (0, 0)) := alloc_at w2 _
      have HSz := Lib.hid (HCl.out _ hBz)
      have HBz := Lib.hid (And.intro hBz hz13)
      clear hBz hz13
      generalize (w2.alloc (.cells #[.int .i64 0, .int .i64 0, .slice none 0 0, .bool false, .bool false, .int .i64 0] 33)).drew = Uz at *
      refine wpAnyH_ready (rs := [7]) (by kernel_rfl) (by simp) ?_
      refine AllReadyH.cons rfl (fun KK hK => ?_) AllReadyH.nil
      go_simp
      go_wp2_with (first | (go_at_call 31; refine HSz.out.mono ?_; rintro e U2 ⟨x', a', c', rfl, hL2, hT2, hb2⟩))
      refine hK.out _ _ ?_ (fun hHeld7 => ?_)
      · exact below_step HBz.out.1 hb2
      clear hK KK
      obtain ⟨r', s', l', cr', ar', lf'⟩ := x'
      dsimp only at hL2 hT2 ⊢
      generalize hL' : l'.length = L' at *
      have HT2 := Lib.hid (And.intro hT2 hL')
      clear hT2 hL'

      have hz := (hb2.block _ (blk_lt HBz.out.2)).trans HBz.out.2
      obtain ⟨U4, hst, hput⟩ := put_rd (cs := #[.int .i64 r', .int .i64 s', .slice a' L' c', .bool cr', .bool ar', .int .i64 lf']) hz rfl rfl (six_one _ _ _ _ _ _ _ _)
      have hSs : Below w2.heap.size w2 U4 := hput.below hHeld7 (Nat.le_refl _)
      obtain ⟨BX, hBX⟩ : ∃ BX, BX = w2.heap.size := ⟨_, rfl⟩
      have HU : Hid (U4.heap[BX]? = some (.cells #[.int .i64 r', .int .i64 s', .slice a' L' c', .bool cr', .bool ar', .int .i64 lf'] 33 (0, 0)) ∧ Below w2.heap.size w2 U4 ∧ LstS U4 a' c' l' ∧ w2.heap.size ≤ BX) := by rw [hBX]; exact ⟨hput.blk, hSs, hL2.put hput (by decide) ⟨_, _, hz⟩, Nat.le_refl _⟩
      refine tk 8 (.tuple #[.agg #[.int .i64 r', .int .i64 s', .slice a' L' c', .bool cr', .bool ar', .int .i64 lf'], .int .i64 (E : Nat)]) (h := ?_)
      refine tk 9 (.agg #[.int .i64 r', .int .i64 s', .slice a' L' c', .bool cr', .bool ar', .int .i64 lf']) (h := ?_)
      refine tk 10 (.int .i64 (E : Nat)) (h := ?_)
      refine ready_store 12 rfl (by kernel_rfl) (by rfl) 33 _ _ (by rfl) _ _ (by rfl) (by rfl) hst hSs ?_
      refine tk 13 (.int .i64 (E : Nat)) (h := ?_)
      refine wpAnyH_done (by kernel_rfl) ?_ _
      refine NoPanic.normal ?_
      rw [← hBX]
      clear hst hSs hput hL2 hb2 hz hHeld hHeld7 hHeld11 hBX HBz HSz
      have hBq : w.heap.size + 1 + 1 + 1 < BX := by have := blk_lt HX2.out.od; have := HU.out.2.2.2; omega
      have HX := Lib.hid (HX2.out.on HU.out.2.1)
      have HF1 : Hid (∀ V2, LstS V2 a' c' l' → Below w.heap.size w V2 → RjdTo w M d1 J2 E (.returned (.tuple #[.agg #[.int .i64 g, .int .i64 f, .int .i64 s, .int .u64 ep, .string R2, .slice ea n n, .int .i64 0, .int .i64 0, .int .i64 (E : Nat)], .agg #[.int .i64 r', .int .i64 s', .slice a' L' c', .bool cr', .bool ar', .int .i64 lf'], .int .i64 (E : Nat)])) V2) := fun V2 hl hb => by
        have q := HF.out V2 ⟨r', s', l', cr', ar', lf'⟩ a' c' hl HT2.out.1 hb
        dsimp only at q
        rw [HT2.out.2] at q
        exact q

      obtain ⟨V1, hs1, hp1⟩ := put_rj (w := U4.drew) (cs := #[.int .i64 g, .int .i64 f, .int .i64 s, .int .u64 ep, .string R2, .slice ea n n, .int .i64 0, .int .i64 0, .int .i64 (E : Nat)]) HX.out.oj rfl rfl (rj_one _ _ _ _ _ _ _ _ _ _ _)
      obtain ⟨V2, hs2, hp2⟩ := put_rd (w := V1) (cs := #[.int .i64 r', .int .i64 s', .slice a' L' c', .bool cr', .bool ar', .int .i64 lf']) ((hp1.far _ (by omega)).trans HX.out.od) rfl rfl (six_one _ _ _ _ _ _ _ _)
      have hS1 : Two (w.heap.size + 1 + 1) (w.heap.size + 1 + 1 + 1) U4 V1 := (Two.drew _ _ _).put hp1 (.inl rfl)
      have hS2 : Two (w.heap.size + 1 + 1) (w.heap.size + 1 + 1 + 1) U4 V2 := hS1.put hp2 (.inr rfl)
      have hBv : Below w.heap.size w V2 := hS2.below HX.out.bw HX.out.bw.size (by omega) (by omega)
      have HE := Lib.hid (And.intro ((hp2.far _ (by omega)).trans hp1.blk : V2.heap[w.heap.size + 1 + 1]? = some (.cells #[.int .i64 g, .int .i64 f, .int .i64 s, .int .u64 ep, .string R2, .slice ea n n, .int .i64 0, .int .i64 0, .int .i64 (E : Nat)] 43 (0, 0))) (And.intro hp2.blk (HF1.out V2 (((HU.out.2.2.1.on (below_drew _)).put hp1 (by decide) ⟨_, _, HX.out.oj⟩).put hp2 (by decide) ⟨_, _, (hp1.far _ (by omega)).trans HX.out.od⟩) hBv)))
      clear hp1 hp2 hBv

      have GA : Hid (∀ V, Two (w.heap.size + 1 + 1) (w.heap.size + 1 + 1 + 1) U4 V → (Instr.loadAt 23 (.pointer (some ⟨w.heap.size, 0, none⟩))).run Tryz.prog V = .ok (.agg #[.int .i64 g, .int .i64 f, .int .i64 s]) V) := fun V hV => load_ra (hV.at HX.out.j (by omega) (by omega))
      have G3 : Hid (∀ V, Two (w.heap.size + 1 + 1) (w.heap.size + 1 + 1 + 1) U4 V → V.cell? ⟨w.heap.size, 3, none⟩ = some (.int .u64 ep)) := fun V hV => cell_of (hV.at HX.out.j (by omega) (by omega)) rfl
      have G4 : Hid (∀ V, Two (w.heap.size + 1 + 1) (w.heap.size + 1 + 1 + 1) U4 V → V.cell? ⟨w.heap.size, 4, none⟩ = some (.string RR)) := fun V hV => cell_of (hV.at HX.out.j (by omega) (by omega)) rfl
      have G5 : Hid (∀ V, Two (w.heap.size + 1 + 1) (w.heap.size + 1 + 1 + 1) U4 V → V.cell? ⟨w.heap.size, 5, none⟩ = some (.slice ea en ec)) := fun V hV => cell_of (hV.at HX.out.j (by omega) (by omega)) rfl
      have GD : Hid (∀ V, Two (w.heap.size + 1 + 1) (w.heap.size + 1 + 1 + 1) U4 V → (Instr.loadAt 33 (.pointer (some ⟨BX, 0, none⟩))).run Tryz.prog V = .ok (.agg #[.int .i64 r', .int .i64 s', .slice a' L' c', .bool cr', .bool ar', .int .i64 lf']) V) := fun V hV => load_rd (hV.at HU.out.1 (by omega) (by omega)) rfl
      clear HF HF1 HT2 HU HX HX2 hBq
      go_wp2_with fail
      refine wp_region_noPanic ?_
      refine wp_region_held_drew (S := fun V => Two (w.heap.size + 1 + 1) (w.heap.size + 1 + 1 + 1) U4 V) (by kernel_rfl) (Two.drew _ _ _) (fun hHeld => ?_)
      refine tk 0 (.pointer (some ⟨w.heap.size, 0, none⟩)) (h := ?_)
      refine tk 1 (.agg #[.int .i64 g, .int .i64 f, .int .i64 s]) (hy := (yields_load (by rfl) 23 _ (by rfl) _ _ (by rfl) (GA.out))) (h := ?_)
      refine tk 2 (.pointer (some ⟨w.heap.size, 3, none⟩)) (h := ?_)
      refine take_at 3 (.int .u64 ep) rfl (by kernel_rfl) (by kernel_rfl) (by kernel_rfl) (fun _ _ _ h => h) (Or.inl ⟨by rfl, ?_⟩) (by assumption) ?_
      · intro V hSV; have e0 := G3.out V hSV; go_simp
      simp only [Act.put, List.setIfInBounds_toArray, List.set_cons_zero, List.set_cons_succ]
      refine tk 4 (.pointer (some ⟨w.heap.size, 4, none⟩)) (h := ?_)
      refine take_at 5 (.string RR) rfl (by kernel_rfl) (by kernel_rfl) (by kernel_rfl) (fun _ _ _ h => h) (Or.inl ⟨by rfl, ?_⟩) (by assumption) ?_
      · intro V hSV; have e0 := G4.out V hSV; go_simp
      simp only [Act.put, List.setIfInBounds_toArray, List.set_cons_zero, List.set_cons_succ]
      refine tk 6 (.int .i64 0) (h := ?_)
      refine tk 7 (.string R2) (h := ?_)
      refine tk 8 (.pointer (some ⟨w.heap.size, 5, none⟩)) (h := ?_)
      refine take_at 9 (.slice ea en ec) rfl (by kernel_rfl) (by kernel_rfl) (by kernel_rfl) (fun _ _ _ h => h) (Or.inl ⟨by rfl, ?_⟩) (by assumption) ?_
      · intro V hSV; have e0 := G5.out V hSV; go_simp
      simp only [Act.put, List.setIfInBounds_toArray, List.set_cons_zero, List.set_cons_succ]
      refine tk 10 (.int .i64 (n : Nat)) (h := ?_)
      refine tk 11 (.int .i64 (n : Nat)) (h := ?_)
      refine tk 12 (.slice ea n n) (hy := (yields_slice_hm (by rfl) 41 _ _ _ (by rfl) _ _ _ _ (by rfl) (by rfl) (by rfl) (fun V => HS8.out V))) (h := ?_)
      refine tk 13 (.int .i64 0) (h := ?_)
      refine tk 14 (.int .i64 (E : Nat)) (h := ?_)
      refine tk 15 (.agg #[.int .i64 g, .int .i64 f, .int .i64 s, .int .u64 ep, .string R2, .slice ea n n, .int .i64 0, .int .i64 0, .int .i64 (E : Nat)]) (h := ?_)
      refine tk 16 (.agg #[.int .i64 r', .int .i64 s', .slice a' L' c', .bool cr', .bool ar', .int .i64 lf']) (hy := (yields_load (by rfl) 33 _ (by rfl) _ _ (by rfl) (GD.out))) (h := ?_)
      refine tk 17 (.int .i64 (E : Nat)) (h := ?_)

      refine ready_store 18 rfl (by kernel_rfl) (by rfl) 43 _ _ (by rfl) _ _ (by rfl) (by rfl) hs1 hS1 ?_
      refine ready_store 19 rfl (by kernel_rfl) (by rfl) 33 _ _ (by rfl) _ _ (by rfl) (by rfl) hs2 hS2 ?_
      refine tk 20 (.int .i64 (E : Nat)) (h := ?_)
      refine wpAnyH_done (by kernel_rfl) ?_ _
      refine NoPanic.normal ?_
      go_wp2_with fail
      exact bodyPost_ret (results_jd rfl _ _ (w.heap.size + 1 + 1) (w.heap.size + 1 + 1 + 1) _ _ (.int .i64 (E : Nat)) rfl rfl rfl HE.out.1 rfl HE.out.2.1 rfl) rfl HE.out.2.2

  · have hnz : (n : Int) > 0 := by omega
    obtain ⟨b, o, rfl, hcell, _⟩ := HEd2.out (n - 1) (by rw [HEN.out]; omega)
    rw [hge hz] at hcell
    obtain ⟨m, rfl⟩ : ∃ m, n = m + 1 := ⟨n - 1, by omega⟩
    rw [Nat.add_sub_cancel] at hcell
    have hwm := wraps_i64 (m : Int) (by omega) (by omega)
    have hsm : (m : Int) + 1 - 1 = m := by omega
    have hm1 : (m : Int) < (en : Int) := by omega
    have hm2 : (0 : Int) ≤ (m : Int) := by omega
    obtain ⟨ea, hea⟩ : ∃ ea : Option Addr, ea = some ⟨b, o, none⟩ := ⟨_, rfl⟩
    clear hz hge hu0
    go_wp2_with fail
    refine wp_region_noPanic ?_
    refine wp_region_held_drew (S := fun V => Below w2.heap.size w2 V) (by kernel_rfl) (below_drew _) (fun hHeld => ?_)
    refine tk 0 (.agg #[.int .i64 r, .int .i64 s9, .slice al L1 cl, .bool cr, .bool ar, .int .i64 lf]) (hy := (yields_load (by rfl) 33 _ (by rfl) _ _ (by rfl) (KD.out))) (h := ?_)
    refine tk 1 (.pointer (some ⟨w.heap.size, 0, none⟩)) (h := ?_)
    refine tk 2 (.agg #[.int .i64 g, .int .i64 f, .int .i64 s]) (hy := (yields_load (by rfl) 23 _ (by rfl) _ _ (by rfl) (KA.out))) (h := ?_)
    refine tk 3 (.pointer (some ⟨w.heap.size, 4, none⟩)) (h := ?_)
    refine take_at 4 (.string RR) rfl (by kernel_rfl) (by kernel_rfl) (by kernel_rfl) (fun _ _ _ h => h) (Or.inl ⟨by rfl, ?_⟩) (by assumption) ?_
    · intro V hSV; have e0 := K4.out V hSV; go_simp
    simp only [Act.put, List.setIfInBounds_toArray, List.set_cons_zero, List.set_cons_succ]
    refine tk 5 (.int .i64 (u : Nat)) (h := ?_)
    refine tk 6 (.string R2) (h := ?_)
    clear KD KA K4

    refine wpAnyH_ready (rs := [7, 11]) (by kernel_rfl) (by simp) ?_
    refine AllReadyH.cons rfl (fun KK hK => ?_) (AllReadyH.cons rfl (fun KK hK => ?_) AllReadyH.nil)
    · go_simp
      go_wp2_with (first | (go_at_call 31; refine (HCl.out _ (below_drew _)).mono ?_; rintro e U2 ⟨x', a', c', rfl, hL2, hT2, hb2⟩))
      refine hK.out _ _ ?_ (fun hHeld7 => ?_)
      · exact below_step (below_drew _) hb2
      clear hK KK
      obtain ⟨r', s', l', cr', ar', lf'⟩ := x'
      dsimp only at hL2 hT2 ⊢
      generalize hL' : l'.length = L' at *
      have HT2 := Lib.hid (And.intro hT2 hL')
      clear hT2 hL'

      obtain ⟨U4, hst, hput⟩ := put_rd (cs := #[.int .i64 r', .int .i64 s', .slice a' L' c', .bool cr', .bool ar', .int .i64 lf']) (alloc_at U2 (.cells #[.int .i64 0, .int .i64 0, .slice none 0 0, .bool false, .bool false, .int .i64 0] 33)) rfl rfl (six_one _ _ _ _ _ _ _ _)
      have hSa : Below w2.heap.size w2 (U2.alloc (.cells #[.int .i64 0, .int .i64 0, .slice none 0 0, .bool false, .bool false, .int .i64 0] 33)) := below_step hHeld7 (below_alloc _ _)
      have hSs : Below w2.heap.size w2 U4 := hput.below hSa hHeld7.size
      obtain ⟨BX, hBX⟩ : ∃ BX, BX = U2.heap.size := ⟨_, rfl⟩
      have HU : Hid (U4.heap[BX]? = some (.cells #[.int .i64 r', .int .i64 s', .slice a' L' c', .bool cr', .bool ar', .int .i64 lf'] 33 (0, 0)) ∧ Below w2.heap.size w2 U4 ∧ LstS U4 a' c' l' ∧ w2.heap.size ≤ BX) := by rw [hBX]; exact ⟨hput.blk, hSs, (hL2.on (below_alloc U2 _)).put hput (by decide) ⟨_, _, alloc_at U2 _⟩, hHeld7.size⟩
      refine tk 8 (.tuple #[.agg #[.int .i64 r', .int .i64 s', .slice a' L' c', .bool cr', .bool ar', .int .i64 lf'], .int .i64 (E : Nat)]) (h := ?_)
      refine tk 9 (.agg #[.int .i64 r', .int .i64 s', .slice a' L' c', .bool cr', .bool ar', .int .i64 lf']) (h := ?_)
      refine tk 10 (.int .i64 (E : Nat)) (h := ?_)
      refine ready_alloc_rd 11 rfl (by kernel_rfl) (by rfl) (by rfl) hSa ?_
      refine ready_store 12 rfl (by kernel_rfl) (by rfl) 33 _ _ (by rfl) _ _ (by rfl) (by rfl) hst hSs ?_
      refine tk 13 (.int .i64 (E : Nat)) (h := ?_)
      refine wpAnyH_done (by kernel_rfl) ?_ _
      refine NoPanic.normal ?_
      rw [← hBX]
      clear hst hSa hSs hput hL2 hb2 hHeld hHeld7 hBX
      have hBq : w.heap.size + 1 + 1 + 1 < BX := by have := blk_lt HX2.out.od; have := HU.out.2.2.2; omega
      have HX := Lib.hid (HX2.out.on HU.out.2.1)
      have HF1 : Hid (∀ V2, LstS V2 a' c' l' → Below w.heap.size w V2 → RjdTo w M d1 J2 E (.returned (.tuple #[.agg #[.int .i64 g, .int .i64 f, .int .i64 s, .int .u64 ep, .string R2, .slice (some ⟨b, o, none⟩) (m + 1) (m + 1), .int .i64 (u : Nat), .int .i64 0, .int .i64 (E : Nat)], .agg #[.int .i64 r', .int .i64 s', .slice a' L' c', .bool cr', .bool ar', .int .i64 lf'], .int .i64 (E : Nat)])) V2) := fun V2 hl hb => by
        have q := HF.out V2 ⟨r', s', l', cr', ar', lf'⟩ a' c' hl HT2.out.1 hb
        dsimp only at q
        rw [HT2.out.2] at q
        exact q

      obtain ⟨V1, hs1, hp1⟩ := put_rj (w := U4.drew) (cs := #[.int .i64 g, .int .i64 f, .int .i64 s, .int .u64 ep, .string R2, .slice (some ⟨b, o, none⟩) (m + 1) (m + 1), .int .i64 (u : Nat), .int .i64 0, .int .i64 (E : Nat)]) HX.out.oj rfl rfl (rj_one _ _ _ _ _ _ _ _ _ _ _)
      obtain ⟨V2, hs2, hp2⟩ := put_rd (w := V1) (cs := #[.int .i64 r', .int .i64 s', .slice a' L' c', .bool cr', .bool ar', .int .i64 lf']) ((hp1.far _ (by omega)).trans HX.out.od) rfl rfl (six_one _ _ _ _ _ _ _ _)
      have hS1 : Two (w.heap.size + 1 + 1) (w.heap.size + 1 + 1 + 1) U4 V1 := (Two.drew _ _ _).put hp1 (.inl rfl)
      have hS2 : Two (w.heap.size + 1 + 1) (w.heap.size + 1 + 1 + 1) U4 V2 := hS1.put hp2 (.inr rfl)
      have hBv : Below w.heap.size w V2 := hS2.below HX.out.bw HX.out.bw.size (by omega) (by omega)
      have HE := Lib.hid (And.intro ((hp2.far _ (by omega)).trans hp1.blk : V2.heap[w.heap.size + 1 + 1]? = some (.cells #[.int .i64 g, .int .i64 f, .int .i64 s, .int .u64 ep, .string R2, .slice (some ⟨b, o, none⟩) (m + 1) (m + 1), .int .i64 (u : Nat), .int .i64 0, .int .i64 (E : Nat)] 43 (0, 0))) (And.intro hp2.blk (HF1.out V2 (((HU.out.2.2.1.on (below_drew _)).put hp1 (by decide) ⟨_, _, HX.out.oj⟩).put hp2 (by decide) ⟨_, _, (hp1.far _ (by omega)).trans HX.out.od⟩) hBv)))
      clear hp1 hp2 hBv

      have GA : Hid (∀ V, Two (w.heap.size + 1 + 1) (w.heap.size + 1 + 1 + 1) U4 V → (Instr.loadAt 23 (.pointer (some ⟨w.heap.size, 0, none⟩))).run Tryz.prog V = .ok (.agg #[.int .i64 g, .int .i64 f, .int .i64 s]) V) := fun V hV => load_ra (hV.at HX.out.j (by omega) (by omega))
      have G3 : Hid (∀ V, Two (w.heap.size + 1 + 1) (w.heap.size + 1 + 1 + 1) U4 V → V.cell? ⟨w.heap.size, 3, none⟩ = some (.int .u64 ep)) := fun V hV => cell_of (hV.at HX.out.j (by omega) (by omega)) rfl
      have G4 : Hid (∀ V, Two (w.heap.size + 1 + 1) (w.heap.size + 1 + 1 + 1) U4 V → V.cell? ⟨w.heap.size, 4, none⟩ = some (.string RR)) := fun V hV => cell_of (hV.at HX.out.j (by omega) (by omega)) rfl
      have G5 : Hid (∀ V, Two (w.heap.size + 1 + 1) (w.heap.size + 1 + 1 + 1) U4 V → V.cell? ⟨w.heap.size, 5, none⟩ = some (.slice (some ⟨b, o, none⟩) en ec)) := fun V hV => cell_of (hV.at HX.out.j (by omega) (by omega)) rfl
      have GD : Hid (∀ V, Two (w.heap.size + 1 + 1) (w.heap.size + 1 + 1 + 1) U4 V → (Instr.loadAt 33 (.pointer (some ⟨BX, 0, none⟩))).run Tryz.prog V = .ok (.agg #[.int .i64 r', .int .i64 s', .slice a' L' c', .bool cr', .bool ar', .int .i64 lf']) V) := fun V hV => load_rd (hV.at HU.out.1 (by omega) (by omega)) rfl
      clear HF HF1 HT2 HU HX HX2 hBq
      go_wp2_with fail
      refine wp_region_noPanic ?_
      refine wp_region_held_drew (S := fun V => Two (w.heap.size + 1 + 1) (w.heap.size + 1 + 1 + 1) U4 V) (by kernel_rfl) (Two.drew _ _ _) (fun hHeld => ?_)
      refine tk 0 (.pointer (some ⟨w.heap.size, 0, none⟩)) (h := ?_)
      refine tk 1 (.agg #[.int .i64 g, .int .i64 f, .int .i64 s]) (hy := (yields_load (by rfl) 23 _ (by rfl) _ _ (by rfl) (GA.out))) (h := ?_)
      refine tk 2 (.pointer (some ⟨w.heap.size, 3, none⟩)) (h := ?_)
      refine take_at 3 (.int .u64 ep) rfl (by kernel_rfl) (by kernel_rfl) (by kernel_rfl) (fun _ _ _ h => h) (Or.inl ⟨by rfl, ?_⟩) (by assumption) ?_
      · intro V hSV; have e0 := G3.out V hSV; go_simp
      simp only [Act.put, List.setIfInBounds_toArray, List.set_cons_zero, List.set_cons_succ]
      refine tk 4 (.pointer (some ⟨w.heap.size, 4, none⟩)) (h := ?_)
      refine take_at 5 (.string RR) rfl (by kernel_rfl) (by kernel_rfl) (by kernel_rfl) (fun _ _ _ h => h) (Or.inl ⟨by rfl, ?_⟩) (by assumption) ?_
      · intro V hSV; have e0 := G4.out V hSV; go_simp
      simp only [Act.put, List.setIfInBounds_toArray, List.set_cons_zero, List.set_cons_succ]
      refine tk 6 (.int .i64 (u : Nat)) (h := ?_)
      refine tk 7 (.string R2) (h := ?_)
      refine tk 8 (.pointer (some ⟨w.heap.size, 5, none⟩)) (h := ?_)
      refine take_at 9 (.slice (some ⟨b, o, none⟩) en ec) rfl (by kernel_rfl) (by kernel_rfl) (by kernel_rfl) (fun _ _ _ h => h) (Or.inl ⟨by rfl, ?_⟩) (by assumption) ?_
      · intro V hSV; have e0 := G5.out V hSV; go_simp
      simp only [Act.put, List.setIfInBounds_toArray, List.set_cons_zero, List.set_cons_succ]
      refine tk 10 (.int .i64 ((m + 1 : Nat))) (h := ?_)
      refine tk 11 (.int .i64 ((m + 1 : Nat))) (h := ?_)
      refine tk 12 (.slice (some ⟨b, o, none⟩) (m + 1) (m + 1)) (hy := (yields_slice_hm (by rfl) 41 _ _ _ (by rfl) _ _ _ _ (by rfl) (by rfl) (by rfl) (fun V => HS8.out V))) (h := ?_)
      refine tk 13 (.int .i64 (u : Nat)) (h := ?_)
      refine tk 14 (.int .i64 (E : Nat)) (h := ?_)
      refine tk 15 (.agg #[.int .i64 g, .int .i64 f, .int .i64 s, .int .u64 ep, .string R2, .slice (some ⟨b, o, none⟩) (m + 1) (m + 1), .int .i64 (u : Nat), .int .i64 0, .int .i64 (E : Nat)]) (h := ?_)
      refine tk 16 (.agg #[.int .i64 r', .int .i64 s', .slice a' L' c', .bool cr', .bool ar', .int .i64 lf']) (hy := (yields_load (by rfl) 33 _ (by rfl) _ _ (by rfl) (GD.out))) (h := ?_)
      refine tk 17 (.int .i64 (E : Nat)) (h := ?_)

      refine ready_store 18 rfl (by kernel_rfl) (by rfl) 43 _ _ (by rfl) _ _ (by rfl) (by rfl) hs1 hS1 ?_
      refine ready_store 19 rfl (by kernel_rfl) (by rfl) 33 _ _ (by rfl) _ _ (by rfl) (by rfl) hs2 hS2 ?_
      refine tk 20 (.int .i64 (E : Nat)) (h := ?_)
      refine wpAnyH_done (by kernel_rfl) ?_ _
      refine NoPanic.normal ?_
      go_wp2_with fail
      exact bodyPost_ret (results_jd rfl _ _ (w.heap.size + 1 + 1) (w.heap.size + 1 + 1 + 1) _ _ (.int .i64 (E : Nat)) rfl rfl rfl HE.out.1 rfl HE.out.2.1 rfl) rfl HE.out.2.2

    · go_simp
      have hBz : Below w2.heap.size w2 (w2.alloc (.cells #[.int .i64 0, .int .i64 0, .slice none 0 0, .bool false, .bool false, .int .i64 0] 33)).drew := below_step (below_alloc _ _) (below_drew _)
      refine hK.out _ _ ?_ (fun hHeld11 => ?_)
      · exact hBz
      clear hK KK
      have hz13 : ((w2.alloc (.cells #[.int .i64 0, .int .i64 0, .slice none 0 0, .bool false, .bool false, .int .i64 0] 33)).drew).heap[w2.heap.size]? = some (.cells #[.int .i64 0, .int .i64 0, .slice none 0 0, .bool false, .bool false, .int .i64 0] 33 (0, 0)) := alloc_at w2 _
      have HSz := Lib.hid (HCl.out _ hBz)
      have HBz := Lib.hid (And.intro hBz hz13)
      clear hBz hz13
      generalize (w2.alloc (.cells #[.int .i64 0, .int .i64 0, .slice none 0 0, .bool false, .bool false, .int .i64 0] 33)).drew = Uz at *
      refine wpAnyH_ready (rs := [7]) (by kernel_rfl) (by simp) ?_
      refine AllReadyH.cons rfl (fun KK hK => ?_) AllReadyH.nil
      go_simp
      go_wp2_with (first | (go_at_call 31; refine HSz.out.mono ?_; rintro e U2 ⟨x', a', c', rfl, hL2, hT2, hb2⟩))
      refine hK.out _ _ ?_ (fun hHeld7 => ?_)
      · exact below_step HBz.out.1 hb2
      clear hK KK
      obtain ⟨r', s', l', cr', ar', lf'⟩ := x'
      dsimp only at hL2 hT2 ⊢
      generalize hL' : l'.length = L' at *
      have HT2 := Lib.hid (And.intro hT2 hL')
      clear hT2 hL'

      have hz := (hb2.block _ (blk_lt HBz.out.2)).trans HBz.out.2
      obtain ⟨U4, hst, hput⟩ := put_rd (cs := #[.int .i64 r', .int .i64 s', .slice a' L' c', .bool cr', .bool ar', .int .i64 lf']) hz rfl rfl (six_one _ _ _ _ _ _ _ _)
      have hSs : Below w2.heap.size w2 U4 := hput.below hHeld7 (Nat.le_refl _)
      obtain ⟨BX, hBX⟩ : ∃ BX, BX = w2.heap.size := ⟨_, rfl⟩
      have HU : Hid (U4.heap[BX]? = some (.cells #[.int .i64 r', .int .i64 s', .slice a' L' c', .bool cr', .bool ar', .int .i64 lf'] 33 (0, 0)) ∧ Below w2.heap.size w2 U4 ∧ LstS U4 a' c' l' ∧ w2.heap.size ≤ BX) := by rw [hBX]; exact ⟨hput.blk, hSs, hL2.put hput (by decide) ⟨_, _, hz⟩, Nat.le_refl _⟩
      refine tk 8 (.tuple #[.agg #[.int .i64 r', .int .i64 s', .slice a' L' c', .bool cr', .bool ar', .int .i64 lf'], .int .i64 (E : Nat)]) (h := ?_)
      refine tk 9 (.agg #[.int .i64 r', .int .i64 s', .slice a' L' c', .bool cr', .bool ar', .int .i64 lf']) (h := ?_)
      refine tk 10 (.int .i64 (E : Nat)) (h := ?_)
      refine ready_store 12 rfl (by kernel_rfl) (by rfl) 33 _ _ (by rfl) _ _ (by rfl) (by rfl) hst hSs ?_
      refine tk 13 (.int .i64 (E : Nat)) (h := ?_)
      refine wpAnyH_done (by kernel_rfl) ?_ _
      refine NoPanic.normal ?_
      rw [← hBX]
      clear hst hSs hput hL2 hb2 hz hHeld hHeld7 hHeld11 hBX HBz HSz
      have hBq : w.heap.size + 1 + 1 + 1 < BX := by have := blk_lt HX2.out.od; have := HU.out.2.2.2; omega
      have HX := Lib.hid (HX2.out.on HU.out.2.1)
      have HF1 : Hid (∀ V2, LstS V2 a' c' l' → Below w.heap.size w V2 → RjdTo w M d1 J2 E (.returned (.tuple #[.agg #[.int .i64 g, .int .i64 f, .int .i64 s, .int .u64 ep, .string R2, .slice (some ⟨b, o, none⟩) (m + 1) (m + 1), .int .i64 (u : Nat), .int .i64 0, .int .i64 (E : Nat)], .agg #[.int .i64 r', .int .i64 s', .slice a' L' c', .bool cr', .bool ar', .int .i64 lf'], .int .i64 (E : Nat)])) V2) := fun V2 hl hb => by
        have q := HF.out V2 ⟨r', s', l', cr', ar', lf'⟩ a' c' hl HT2.out.1 hb
        dsimp only at q
        rw [HT2.out.2] at q
        exact q

      obtain ⟨V1, hs1, hp1⟩ := put_rj (w := U4.drew) (cs := #[.int .i64 g, .int .i64 f, .int .i64 s, .int .u64 ep, .string R2, .slice (some ⟨b, o, none⟩) (m + 1) (m + 1), .int .i64 (u : Nat), .int .i64 0, .int .i64 (E : Nat)]) HX.out.oj rfl rfl (rj_one _ _ _ _ _ _ _ _ _ _ _)
      obtain ⟨V2, hs2, hp2⟩ := put_rd (w := V1) (cs := #[.int .i64 r', .int .i64 s', .slice a' L' c', .bool cr', .bool ar', .int .i64 lf']) ((hp1.far _ (by omega)).trans HX.out.od) rfl rfl (six_one _ _ _ _ _ _ _ _)
      have hS1 : Two (w.heap.size + 1 + 1) (w.heap.size + 1 + 1 + 1) U4 V1 := (Two.drew _ _ _).put hp1 (.inl rfl)
      have hS2 : Two (w.heap.size + 1 + 1) (w.heap.size + 1 + 1 + 1) U4 V2 := hS1.put hp2 (.inr rfl)
      have hBv : Below w.heap.size w V2 := hS2.below HX.out.bw HX.out.bw.size (by omega) (by omega)
      have HE := Lib.hid (And.intro ((hp2.far _ (by omega)).trans hp1.blk : V2.heap[w.heap.size + 1 + 1]? = some (.cells #[.int .i64 g, .int .i64 f, .int .i64 s, .int .u64 ep, .string R2, .slice (some ⟨b, o, none⟩) (m + 1) (m + 1), .int .i64 (u : Nat), .int .i64 0, .int .i64 (E : Nat)] 43 (0, 0))) (And.intro hp2.blk (HF1.out V2 (((HU.out.2.2.1.on (below_drew _)).put hp1 (by decide) ⟨_, _, HX.out.oj⟩).put hp2 (by decide) ⟨_, _, (hp1.far _ (by omega)).trans HX.out.od⟩) hBv)))
      clear hp1 hp2 hBv

      have GA : Hid (∀ V, Two (w.heap.size + 1 + 1) (w.heap.size + 1 + 1 + 1) U4 V → (Instr.loadAt 23 (.pointer (some ⟨w.heap.size, 0, none⟩))).run Tryz.prog V = .ok (.agg #[.int .i64 g, .int .i64 f, .int .i64 s]) V) := fun V hV => load_ra (hV.at HX.out.j (by omega) (by omega))
      have G3 : Hid (∀ V, Two (w.heap.size + 1 + 1) (w.heap.size + 1 + 1 + 1) U4 V → V.cell? ⟨w.heap.size, 3, none⟩ = some (.int .u64 ep)) := fun V hV => cell_of (hV.at HX.out.j (by omega) (by omega)) rfl
      have G4 : Hid (∀ V, Two (w.heap.size + 1 + 1) (w.heap.size + 1 + 1 + 1) U4 V → V.cell? ⟨w.heap.size, 4, none⟩ = some (.string RR)) := fun V hV => cell_of (hV.at HX.out.j (by omega) (by omega)) rfl
      have G5 : Hid (∀ V, Two (w.heap.size + 1 + 1) (w.heap.size + 1 + 1 + 1) U4 V → V.cell? ⟨w.heap.size, 5, none⟩ = some (.slice (some ⟨b, o, none⟩) en ec)) := fun V hV => cell_of (hV.at HX.out.j (by omega) (by omega)) rfl
      have GD : Hid (∀ V, Two (w.heap.size + 1 + 1) (w.heap.size + 1 + 1 + 1) U4 V → (Instr.loadAt 33 (.pointer (some ⟨BX, 0, none⟩))).run Tryz.prog V = .ok (.agg #[.int .i64 r', .int .i64 s', .slice a' L' c', .bool cr', .bool ar', .int .i64 lf']) V) := fun V hV => load_rd (hV.at HU.out.1 (by omega) (by omega)) rfl
      clear HF HF1 HT2 HU HX HX2 hBq
      go_wp2_with fail
      refine wp_region_noPanic ?_
      refine wp_region_held_drew (S := fun V => Two (w.heap.size + 1 + 1) (w.heap.size + 1 + 1 + 1) U4 V) (by kernel_rfl) (Two.drew _ _ _) (fun hHeld => ?_)
      refine tk 0 (.pointer (some ⟨w.heap.size, 0, none⟩)) (h := ?_)
      refine tk 1 (.agg #[.int .i64 g, .int .i64 f, .int .i64 s]) (hy := (yields_load (by rfl) 23 _ (by rfl) _ _ (by rfl) (GA.out))) (h := ?_)
      refine tk 2 (.pointer (some ⟨w.heap.size, 3, none⟩)) (h := ?_)
      refine take_at 3 (.int .u64 ep) rfl (by kernel_rfl) (by kernel_rfl) (by kernel_rfl) (fun _ _ _ h => h) (Or.inl ⟨by rfl, ?_⟩) (by assumption) ?_
      · intro V hSV; have e0 := G3.out V hSV; go_simp
      simp only [Act.put, List.setIfInBounds_toArray, List.set_cons_zero, List.set_cons_succ]
      refine tk 4 (.pointer (some ⟨w.heap.size, 4, none⟩)) (h := ?_)
      refine take_at 5 (.string RR) rfl (by kernel_rfl) (by kernel_rfl) (by kernel_rfl) (fun _ _ _ h => h) (Or.inl ⟨by rfl, ?_⟩) (by assumption) ?_
      · intro V hSV; have e0 := G4.out V hSV; go_simp
      simp only [Act.put, List.setIfInBounds_toArray, List.set_cons_zero, List.set_cons_succ]
      refine tk 6 (.int .i64 (u : Nat)) (h := ?_)
      refine tk 7 (.string R2) (h := ?_)
      refine tk 8 (.pointer (some ⟨w.heap.size, 5, none⟩)) (h := ?_)
      refine take_at 9 (.slice (some ⟨b, o, none⟩) en ec) rfl (by kernel_rfl) (by kernel_rfl) (by kernel_rfl) (fun _ _ _ h => h) (Or.inl ⟨by rfl, ?_⟩) (by assumption) ?_
      · intro V hSV; have e0 := G5.out V hSV; go_simp
      simp only [Act.put, List.setIfInBounds_toArray, List.set_cons_zero, List.set_cons_succ]
      refine tk 10 (.int .i64 ((m + 1 : Nat))) (h := ?_)
      refine tk 11 (.int .i64 ((m + 1 : Nat))) (h := ?_)
      refine tk 12 (.slice (some ⟨b, o, none⟩) (m + 1) (m + 1)) (hy := (yields_slice_hm (by rfl) 41 _ _ _ (by rfl) _ _ _ _ (by rfl) (by rfl) (by rfl) (fun V => HS8.out V))) (h := ?_)
      refine tk 13 (.int .i64 (u : Nat)) (h := ?_)
      refine tk 14 (.int .i64 (E : Nat)) (h := ?_)
      refine tk 15 (.agg #[.int .i64 g, .int .i64 f, .int .i64 s, .int .u64 ep, .string R2, .slice (some ⟨b, o, none⟩) (m + 1) (m + 1), .int .i64 (u : Nat), .int .i64 0, .int .i64 (E : Nat)]) (h := ?_)
      refine tk 16 (.agg #[.int .i64 r', .int .i64 s', .slice a' L' c', .bool cr', .bool ar', .int .i64 lf']) (hy := (yields_load (by rfl) 33 _ (by rfl) _ _ (by rfl) (GD.out))) (h := ?_)
      refine tk 17 (.int .i64 (E : Nat)) (h := ?_)

      refine ready_store 18 rfl (by kernel_rfl) (by rfl) 43 _ _ (by rfl) _ _ (by rfl) (by rfl) hs1 hS1 ?_
      refine ready_store 19 rfl (by kernel_rfl) (by rfl) 33 _ _ (by rfl) _ _ (by rfl) (by rfl) hs2 hS2 ?_
      refine tk 20 (.int .i64 (E : Nat)) (h := ?_)
      refine wpAnyH_done (by kernel_rfl) ?_ _
      refine NoPanic.normal ?_
      go_wp2_with fail
      exact bodyPost_ret (results_jd rfl _ _ (w.heap.size + 1 + 1) (w.heap.size + 1 + 1 + 1) _ _ (.int .i64 (E : Nat)) rfl rfl rfl HE.out.1 rfl HE.out.2.1 rfl) rfl HE.out.2.2
theorem rcut_ {w : World} {d : Dev} {x : RD} {al ea : Option Addr} {cl ec : Nat} {J : Jr} {M : Nat → Prop} (hs : RSt w d x al cl) (hEd : EdF w M ea ec J.ends) (hok : okJ J) (hc : J.dead = 0 → Calm d J) (n : Int) :
    Calls Tryz.prog 38 #[rjV J ea ec, rdV x al cl, .int .i64 n] w (RjdTo w M (cutD d J n) (cutJ d J n) (cutE d J n)) := by
  by_cases hd : J.dead = 0
  · by_cases hb : cutBad J n
    · exact rcut_bad hs hEd hok n hd hb
    · have hd' : ¬ J.dead ≠ 0 := fun e => e hd
      have e1 : cutE d J n = cleanE J.a (allB J.ep (J.pss.take n.toNat)) d := by unfold cutE; rw [if_neg hd', if_neg hb]
      have e2 : cutD d J n = cleanD J.a (allB J.ep (J.pss.take n.toNat)) d := by unfold cutD; rw [if_neg hd', if_neg hb]
      have e3 : cutJ d J n = ⟨J.a, J.ep, J.pss.take n.toNat, n.toNat, cleanE J.a (allB J.ep (J.pss.take n.toNat)) d⟩ := by unfold cutJ; rw [if_neg hd', if_neg hb]
      rw [e1, e2, e3]
      unfold cutBad at hb
      obtain ⟨m, rfl⟩ : ∃ m : Nat, n = (m : Int) := ⟨n.toNat, by omega⟩
      rw [Int.toNat_natCast]
      exact rcut_ok hs hEd hok (hc hd) m (by omega) (by omega)
  · exact rcut_dead hs hEd n hd
end Go.Proofs.YtjnhcanohefjiaaGreatDoor
