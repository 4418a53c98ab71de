/- The document's Open. -/
import Derived.Test.YtjnhcanohefjiaaGreatDoorRjJd
import Derived.Test.YtjnhcanohefjiaaGreatDoorRjEnds
import Derived.Test.YtjnhcanohefjiaaGreatDoorRcRScan
import Derived.Lib.ConvBytes
import Derived.BigQuiet
namespace Go.Proofs.YtjnhcanohefjiaaGreatDoor
open Go.RowKit Go.Sort Go.Maps

theorem sb_bs (xs : List Nat) (hx : ∀ x ∈ xs, x < 256) : sb (bs xs) = xs := by
  unfold sb bs
  simp only [List.map_map]
  conv => rhs; rw [← List.map_id xs]
  apply List.map_congr_left
  intro x h
  have := hx x h
  simp [Nat.mod_eq_of_lt this]
/-- What []byte(s) makes of bytes. -/
theorem conv_backB (w : World) (xs : List Nat) (hx : ∀ x ∈ xs, x < 256) : ∃ c W, (convert 9 53 (.string (bs xs))).run Tryz.prog w = .ok (.slice (some ⟨w.heap.size, 0, none⟩) xs.length c) W ∧ BytesIn W (some ⟨w.heap.size, 0, none⟩) xs ∧ xs.length ≤ c ∧ Below w.heap.size w W := by
  have hr := Lib.run_convert_string_bytes w 9 53 5 (bs xs) Tryz.underlying9 Tryz.underlying53 Tryz.underlying5
  rw [bs_size] at hr
  refine ⟨_, _, hr, ?_, ?_, ?_⟩
  · intro i hi
    refine ⟨_, _, rfl, ?_⟩
    rw [Nat.zero_add, Lib.bytesWorld_cell w 5 (bs xs) i (by rw [bs_size]; exact hi)]
    have h1 := sb_bs xs hx
    have h2 : (sb (bs xs))[i]? = some (xs.getD i 0) := by rw [h1, List.getElem?_eq_getElem hi, List.getD_eq_getElem?_getD, List.getElem?_eq_getElem hi]; rfl
    unfold sb at h2
    rw [List.getElem?_map] at h2
    rw [Array.getElem?_toList] at h2
    obtain ⟨y, h3, h4⟩ := Option.map_eq_some_iff.1 h2
    rw [← h4]
    simp [h3]
  · exact grownCap_ge w _ 0 _
  · exact ⟨rfl, rfl, rfl, by rw [Lib.bytesWorld_size]; omega, fun k hk => Lib.bytesWorld_at_old w _ _ k hk⟩
theorem old_mem {w : World} {b o : Nat} {old : Array Value} {t : TypeId} {z : Nat × Nat} {v : Value} (ho : w.heap[b]? = some (.cells old t z)) (hc : w.cell? ⟨b, o, none⟩ = some v) : v ∈ old.toList := by
  have hq : old[o]? = some v := by
    simp only [World.cell?, ho] at hc
    simpa using hc
  have := Array.mem_of_getElem? hq
  simpa using this
/-- No cell that a list of bytes could lie in. -/
def NoList (w : World) (v : Value) : Prop := (∀ a n c, v = .slice a n c → n = 0 ∨ ∃ b o m, a = some ⟨b, o, none⟩ ∧ w.cell? ⟨b, o, none⟩ = some (.int .i64 m)) ∧ ∀ x, v ≠ .int .u8 x
/-- A list stays where a block is written that none of its cells lies in. -/
theorem ListIn.put {w w' : World} {la : Option Addr} {yss : List (List Nat)} {b : Nat} {old cs : Array Value} {t t' : TypeId} {z : Nat × Nat} (h : ListIn w la yss) (hne : ∀ p ∈ yss, OkP p) (ho : w.heap[b]? = some (.cells old t z)) (hold : ∀ v ∈ old.toList, NoList w v) (hp : Put w b cs t' w') : ListIn w' la yss := fun i hi => by
  obtain ⟨b1, o1, e, a1, c1, q2, q3⟩ := h i hi
  have hpi : yss.getD i [] ∈ yss := by rw [List.getD_eq_getElem?_getD, List.getElem?_eq_getElem hi]; exact List.getElem_mem hi
  have hp0 : 0 < (yss.getD i []).length := List.length_pos_iff.2 (hne _ hpi).1
  have hb1 : b1 ≠ b := fun eb => by
    rw [eb] at q2
    rcases (hold _ (old_mem ho q2)).1 _ _ _ rfl with q | ⟨b2, o2, m, q4, q5⟩
    · omega
    · obtain ⟨b3, o3, q6, q7⟩ := q3 0 hp0
      rw [q4] at q6
      cases q6
      rw [Nat.add_zero, q5] at q7
      cases q7
  refine ⟨b1, o1, e, a1, c1, ?_, fun j hj => ?_⟩
  · have := hp.far b1 hb1
    rw [← q2]
    simp [World.cell?, this]
  · obtain ⟨b3, o3, q6, q7⟩ := q3 j hj
    refine ⟨b3, o3, q6, ?_⟩
    have := hp.far b3 (fun eb => by rw [eb] at q7; exact (hold _ (old_mem ho q7)).2 _ rfl)
    rw [← q7]
    simp [World.cell?, this]
theorem noList_zj (w : World) : ∀ v ∈ (#[.int .i64 0, .int .i64 0, .int .i64 0, .int .u64 0, .string ⟨#[]⟩, .slice none 0 0, .int .i64 0, .int .i64 0, .int .i64 0] : Array Value).toList, NoList w v := by
  intro v hv
  simp only [List.mem_cons, List.not_mem_nil, or_false] at hv
  rcases hv with rfl | rfl | rfl | rfl | rfl | rfl | rfl | rfl | rfl <;> refine ⟨fun a n c e => ?_, fun x e => ?_⟩ <;> first | (cases e; exact .inl rfl) | cases e
theorem noList_zr (w : World) : ∀ v ∈ (#[.int .i64 0, .int .i64 0, .slice none 0 0, .bool false, .bool false, .int .i64 0] : Array Value).toList, NoList w v := by
  intro v hv
  simp only [List.mem_cons, List.not_mem_nil, or_false] at hv
  rcases hv with rfl | rfl | rfl | rfl | rfl | rfl <;> refine ⟨fun a n c e => ?_, fun x e => ?_⟩ <;> first | (cases e; exact .inl rfl) | cases e
/-- The four blocks that it begins with. -/
structure Four2 (w W : World) (d a : Array Value) : Prop where
  d : W.heap[w.heap.size]? = some (.cells d 33 (0, 0))
  a : W.heap[w.heap.size + 1]? = some (.cells a 23 (0, 0))
  oj : W.heap[w.heap.size + 1 + 1]? = some (.cells #[.int .i64 0, .int .i64 0, .int .i64 0, .int .u64 0, .string ⟨#[]⟩, .slice none 0 0, .int .i64 0, .int .i64 0, .int .i64 0] 43 (0, 0))
  od : W.heap[w.heap.size + 1 + 1 + 1]? = some (.cells #[.int .i64 0, .int .i64 0, .slice none 0 0, .bool false, .bool false, .int .i64 0] 33 (0, 0))
  bw : Below w.heap.size w W
theorem Four2.on {w W V : World} {d a : Array Value} (h : Four2 w W d a) (hb : Below W.heap.size W V) : Four2 w V d a :=
  ⟨(hb.block _ (blk_lt h.d)).trans h.d, (hb.block _ (blk_lt h.a)).trans h.a, (hb.block _ (blk_lt h.oj)).trans h.oj, (hb.block _ (blk_lt h.od)).trans h.od, below_step h.bw hb⟩
theorem load_ra3 {w : World} {b : Nat} {g f s : Int} {t : TypeId} {z : Nat × Nat} (h : w.heap[b]? = some (.cells #[.int .i64 g, .int .i64 f, .int .i64 s] t z)) : (Instr.loadAt 23 (.pointer (some ⟨b, 0, none⟩))).run Tryz.prog w = .ok (.agg #[.int .i64 g, .int .i64 f, .int .i64 s]) w :=
  load_mid h 23 0 _ _ Tryz.underlying23 rfl infoA3 rfl
/-- What it hands back of an area that is in the device. -/
def RopTo (w : World) (M : Nat → Prop) (d : Dev) (a : Ar) (ep : Nat) (e : Ending) (w' : World) : Prop :=
  ∃ x a' c' ea ec la lc, e = .returned (.tuple #[rjV (openJ d a ep) ea ec, rdV x a' c', .slice la (openJ d a ep).pss.length lc, .int .i64 0]) ∧ LstS w' a' c' x.l ∧ Tie (cleanD a (openJ d a ep).row d) x ∧ EdF w' M ea ec (openJ d a ep).ends ∧ ListIn w' la (openJ d a ep).pss ∧ Below w.heap.size w w'
set_option maxRecDepth 100000 in
set_option maxHeartbeats 8000000 in
theorem ropen_out {w : World} {d : Dev} {x : RD} {al : Option Addr} {cl : Nat} (hs : RSt w d x al cl) (a : Ar) (hr : inR a) (ep : Nat) (hin : ¬ inJ d a) :
    Calls Tryz.prog 8 #[rdV x al cl, arV a, .int .u64 ep] w fun e w' => e = .returned (.tuple #[.agg #[.int .i64 0, .int .i64 0, .int .i64 0, .int .u64 0, .string ⟨#[]⟩, .slice none 0 0, .int .i64 0, .int .i64 0, .int .i64 0], rdV x al cl, .slice none 0 0, .int .i64 1]) ∧ Below w.heap.size w w' := by
  have hxr := hs.tie.r
  have hxs := hs.tie.s
  rw [hs.rs.1] at hxr
  rw [hs.rs.2] at hxs
  unfold inJ at hin
  rw [hs.rs.1, hs.rs.2] at hin
  clear hs
  unfold rdV rdC arV at *

  obtain ⟨W, hW⟩ : ∃ W, W = (((w.alloc (.cells #[.int .i64 x.r, .int .i64 x.s, .slice al x.l.length cl, .bool x.crashed, .bool x.armed, .int .i64 x.left] 33)).alloc (.cells #[.int .i64 a.g, .int .i64 a.f, .int .i64 a.s] 23)).alloc (.cells #[.int .i64 0, .int .i64 0, .int .i64 0, .int .u64 0, .string ⟨#[]⟩, .slice none 0 0, .int .i64 0, .int .i64 0, .int .i64 0] 43)).alloc (.cells #[.int .i64 0, .int .i64 0, .slice none 0 0, .bool false, .bool false, .int .i64 0] 33) := ⟨_, rfl⟩
  have hWf := four_at w (.cells #[.int .i64 x.r, .int .i64 x.s, .slice al x.l.length cl, .bool x.crashed, .bool x.armed, .int .i64 x.left] 33) (.cells #[.int .i64 a.g, .int .i64 a.f, .int .i64 a.s] 23) (.cells #[.int .i64 0, .int .i64 0, .int .i64 0, .int .u64 0, .string ⟨#[]⟩, .slice none 0 0, .int .i64 0, .int .i64 0, .int .i64 0] 43) (.cells #[.int .i64 0, .int .i64 0, .slice none 0 0, .bool false, .bool false, .int .i64 0] 33)
  rw [← hW] at hWf
  obtain ⟨q1, q2, q3, q4, q5⟩ := hWf
  have HX : Hid (Four2 w W #[.int .i64 x.r, .int .i64 x.s, .slice al x.l.length cl, .bool x.crashed, .bool x.armed, .int .i64 x.left] #[.int .i64 a.g, .int .i64 a.f, .int .i64 a.s]) := ⟨q1, q2, q3, q4, q5⟩
  have HW := Lib.hid hW
  clear hW q1 q2 q3 q4 q5

  generalize x.l.length = L1 at *
  generalize x.r = r at *
  generalize x.s = s9 at *
  generalize x.crashed = cr at *
  generalize x.armed = ar at *
  generalize x.left = lf at *

  subst hxr hxs
  obtain ⟨g, f, s⟩ := a
  obtain ⟨⟨r1, r2⟩, ⟨r3, r4⟩, r5, r6⟩ := hr
  dsimp only at *
  obtain ⟨y0, y1, y2⟩ := ar_cells HX.out.a
  have GD : Hid (∀ V, Two (w.heap.size + 1 + 1) (w.heap.size + 1 + 1 + 1) W V → (Instr.loadAt 33 (.pointer (some ⟨w.heap.size, 0, none⟩))).run Tryz.prog V = .ok (.agg #[.int .i64 2, .int .i64 12, .slice al L1 cl, .bool cr, .bool ar, .int .i64 lf]) V) := fun V hV => load_rd (hV.at HX.out.d (by omega) (by omega)) rfl
  obtain ⟨z0, z1, z2, z3, z4, z5⟩ := rd_cells HX.out.d

  obtain ⟨V1, hs1, hp1⟩ := put_rj (w := W.drew) (cs := #[.int .i64 0, .int .i64 0, .int .i64 0, .int .u64 0, .string ⟨#[]⟩, .slice none 0 0, .int .i64 0, .int .i64 0, .int .i64 0]) HX.out.oj rfl rfl (by simp [Value.oneCell'])
  obtain ⟨V2, hs2, hp2⟩ := put_rd (w := V1) (cs := #[.int .i64 2, .int .i64 12, .slice al L1 cl, .bool cr, .bool ar, .int .i64 lf]) ((hp1.far _ (by omega)).trans HX.out.od) rfl rfl (six_one _ _ _ _ _ _ _ _)
  have hS1 : Two (w.heap.size + 1 + 1) (w.heap.size + 1 + 1 + 1) W V1 := (Two.drew _ _ _).put hp1 (.inl rfl)
  have hS2 : Two (w.heap.size + 1 + 1) (w.heap.size + 1 + 1 + 1) W V2 := hS1.put hp2 (.inr rfl)
  have hBv : Below w.heap.size w V2 := hS2.below HX.out.bw HX.out.bw.size (by omega) (by omega)
  have HE := Lib.hid (And.intro ((hp2.far _ (by omega)).trans hp1.blk : V2.heap[w.heap.size + 1 + 1]? = some (.cells #[.int .i64 0, .int .i64 0, .int .i64 0, .int .u64 0, .string ⟨#[]⟩, .slice none 0 0, .int .i64 0, .int .i64 0, .int .i64 0] 43 (0, 0))) (And.intro hp2.blk hBv))
  clear hp1 hp2 hBv

  by_cases c1 : g < 0
  · go_enter Tryz.func8, Tryz.ntmps8
    go_wp2_with fail
    rw [← HW.out]
    go_wp2_with fail
    refine wp_region_noPanic ?_
    refine wp_region_held_drew (S := fun V => Two (w.heap.size + 1 + 1) (w.heap.size + 1 + 1 + 1) W V) (by kernel_rfl) (Two.drew _ _ _) (fun hHeld => ?_)
    refine tk 0 (.agg #[.int .i64 0, .int .i64 0, .int .i64 0, .int .u64 0, .string ⟨#[]⟩, .slice none 0 0, .int .i64 0, .int .i64 0, .int .i64 0]) (h := ?_)
    refine tk 1 (.agg #[.int .i64 2, .int .i64 12, .slice al L1 cl, .bool cr, .bool ar, .int .i64 lf]) (hy := (yields_load (by rfl) 33 _ (by rfl) _ _ (by rfl) (GD.out))) (h := ?_)
    refine ready_store 2 rfl (by kernel_rfl) (by rfl) 43 _ _ (by rfl) _ _ (by rfl) (by rfl) hs1 hS1 ?_
    refine ready_store 3 rfl (by kernel_rfl) (by rfl) 33 _ _ (by rfl) _ _ (by rfl) (by rfl) hs2 hS2 ?_
    refine tk 4 (.slice none 0 0) (h := ?_)
    refine tk 5 (.int .i64 1) (h := ?_)
    refine wpAnyH_done (by kernel_rfl) ?_ _
    refine NoPanic.normal ?_
    go_wp2_with fail
    exact bodyPost_ret (results_jo rfl _ _ (w.heap.size + 1 + 1) (w.heap.size + 1 + 1 + 1) _ _ (.slice none 0 0) (.int .i64 1) rfl rfl rfl rfl HE.out.1 rfl HE.out.2.1 rfl) rfl ⟨rfl, HE.out.2.2⟩
  · by_cases c2 : g ≥ 2
    · go_enter Tryz.func8, Tryz.ntmps8
      go_wp2_with fail
      rw [← HW.out]
      go_wp2_with fail
      refine wp_region_noPanic ?_
      refine wp_region_held_drew (S := fun V => Two (w.heap.size + 1 + 1) (w.heap.size + 1 + 1 + 1) W V) (by kernel_rfl) (Two.drew _ _ _) (fun hHeld => ?_)
      refine tk 0 (.agg #[.int .i64 0, .int .i64 0, .int .i64 0, .int .u64 0, .string ⟨#[]⟩, .slice none 0 0, .int .i64 0, .int .i64 0, .int .i64 0]) (h := ?_)
      refine tk 1 (.agg #[.int .i64 2, .int .i64 12, .slice al L1 cl, .bool cr, .bool ar, .int .i64 lf]) (hy := (yields_load (by rfl) 33 _ (by rfl) _ _ (by rfl) (GD.out))) (h := ?_)
      refine ready_store 2 rfl (by kernel_rfl) (by rfl) 43 _ _ (by rfl) _ _ (by rfl) (by rfl) hs1 hS1 ?_
      refine ready_store 3 rfl (by kernel_rfl) (by rfl) 33 _ _ (by rfl) _ _ (by rfl) (by rfl) hs2 hS2 ?_
      refine tk 4 (.slice none 0 0) (h := ?_)
      refine tk 5 (.int .i64 1) (h := ?_)
      refine wpAnyH_done (by kernel_rfl) ?_ _
      refine NoPanic.normal ?_
      go_wp2_with fail
      exact bodyPost_ret (results_jo rfl _ _ (w.heap.size + 1 + 1) (w.heap.size + 1 + 1 + 1) _ _ (.slice none 0 0) (.int .i64 1) rfl rfl rfl rfl HE.out.1 rfl HE.out.2.1 rfl) rfl ⟨rfl, HE.out.2.2⟩
    · by_cases c3 : f < 0
      · go_enter Tryz.func8, Tryz.ntmps8
        go_wp2_with fail
        rw [← HW.out]
        go_wp2_with fail
        refine wp_region_noPanic ?_
        refine wp_region_held_drew (S := fun V => Two (w.heap.size + 1 + 1) (w.heap.size + 1 + 1 + 1) W V) (by kernel_rfl) (Two.drew _ _ _) (fun hHeld => ?_)
        refine tk 0 (.agg #[.int .i64 0, .int .i64 0, .int .i64 0, .int .u64 0, .string ⟨#[]⟩, .slice none 0 0, .int .i64 0, .int .i64 0, .int .i64 0]) (h := ?_)
        refine tk 1 (.agg #[.int .i64 2, .int .i64 12, .slice al L1 cl, .bool cr, .bool ar, .int .i64 lf]) (hy := (yields_load (by rfl) 33 _ (by rfl) _ _ (by rfl) (GD.out))) (h := ?_)
        refine ready_store 2 rfl (by kernel_rfl) (by rfl) 43 _ _ (by rfl) _ _ (by rfl) (by rfl) hs1 hS1 ?_
        refine ready_store 3 rfl (by kernel_rfl) (by rfl) 33 _ _ (by rfl) _ _ (by rfl) (by rfl) hs2 hS2 ?_
        refine tk 4 (.slice none 0 0) (h := ?_)
        refine tk 5 (.int .i64 1) (h := ?_)
        refine wpAnyH_done (by kernel_rfl) ?_ _
        refine NoPanic.normal ?_
        go_wp2_with fail
        exact bodyPost_ret (results_jo rfl _ _ (w.heap.size + 1 + 1) (w.heap.size + 1 + 1 + 1) _ _ (.slice none 0 0) (.int .i64 1) rfl rfl rfl rfl HE.out.1 rfl HE.out.2.1 rfl) rfl ⟨rfl, HE.out.2.2⟩
      · by_cases c4 : s < 1
        · go_enter Tryz.func8, Tryz.ntmps8
          go_wp2_with fail
          rw [← HW.out]
          go_wp2_with fail
          refine wp_region_noPanic ?_
          refine wp_region_held_drew (S := fun V => Two (w.heap.size + 1 + 1) (w.heap.size + 1 + 1 + 1) W V) (by kernel_rfl) (Two.drew _ _ _) (fun hHeld => ?_)
          refine tk 0 (.agg #[.int .i64 0, .int .i64 0, .int .i64 0, .int .u64 0, .string ⟨#[]⟩, .slice none 0 0, .int .i64 0, .int .i64 0, .int .i64 0]) (h := ?_)
          refine tk 1 (.agg #[.int .i64 2, .int .i64 12, .slice al L1 cl, .bool cr, .bool ar, .int .i64 lf]) (hy := (yields_load (by rfl) 33 _ (by rfl) _ _ (by rfl) (GD.out))) (h := ?_)
          refine ready_store 2 rfl (by kernel_rfl) (by rfl) 43 _ _ (by rfl) _ _ (by rfl) (by rfl) hs1 hS1 ?_
          refine ready_store 3 rfl (by kernel_rfl) (by rfl) 33 _ _ (by rfl) _ _ (by rfl) (by rfl) hs2 hS2 ?_
          refine tk 4 (.slice none 0 0) (h := ?_)
          refine tk 5 (.int .i64 1) (h := ?_)
          refine wpAnyH_done (by kernel_rfl) ?_ _
          refine NoPanic.normal ?_
          go_wp2_with fail
          exact bodyPost_ret (results_jo rfl _ _ (w.heap.size + 1 + 1) (w.heap.size + 1 + 1 + 1) _ _ (.slice none 0 0) (.int .i64 1) rfl rfl rfl rfl HE.out.1 rfl HE.out.2.1 rfl) rfl ⟨rfl, HE.out.2.2⟩
        · by_cases c5 : s > 12
          · go_enter Tryz.func8, Tryz.ntmps8
            go_wp2_with fail
            rw [← HW.out]
            go_wp2_with fail
            refine wp_region_noPanic ?_
            refine wp_region_held_drew (S := fun V => Two (w.heap.size + 1 + 1) (w.heap.size + 1 + 1 + 1) W V) (by kernel_rfl) (Two.drew _ _ _) (fun hHeld => ?_)
            refine tk 0 (.agg #[.int .i64 0, .int .i64 0, .int .i64 0, .int .u64 0, .string ⟨#[]⟩, .slice none 0 0, .int .i64 0, .int .i64 0, .int .i64 0]) (h := ?_)
            refine tk 1 (.agg #[.int .i64 2, .int .i64 12, .slice al L1 cl, .bool cr, .bool ar, .int .i64 lf]) (hy := (yields_load (by rfl) 33 _ (by rfl) _ _ (by rfl) (GD.out))) (h := ?_)
            refine ready_store 2 rfl (by kernel_rfl) (by rfl) 43 _ _ (by rfl) _ _ (by rfl) (by rfl) hs1 hS1 ?_
            refine ready_store 3 rfl (by kernel_rfl) (by rfl) 33 _ _ (by rfl) _ _ (by rfl) (by rfl) hs2 hS2 ?_
            refine tk 4 (.slice none 0 0) (h := ?_)
            refine tk 5 (.int .i64 1) (h := ?_)
            refine wpAnyH_done (by kernel_rfl) ?_ _
            refine NoPanic.normal ?_
            go_wp2_with fail
            exact bodyPost_ret (results_jo rfl _ _ (w.heap.size + 1 + 1) (w.heap.size + 1 + 1 + 1) _ _ (.slice none 0 0) (.int .i64 1) rfl rfl rfl rfl HE.out.1 rfl HE.out.2.1 rfl) rfl ⟨rfl, HE.out.2.2⟩
          · have w1 := wraps_i64 (12 - s) (by omega) (by omega)
            by_cases c6 : f > 12 - s
            · go_enter Tryz.func8, Tryz.ntmps8
              go_wp2_with fail
              rw [← HW.out]
              go_wp2_with fail
              refine wp_region_noPanic ?_
              refine wp_region_held_drew (S := fun V => Two (w.heap.size + 1 + 1) (w.heap.size + 1 + 1 + 1) W V) (by kernel_rfl) (Two.drew _ _ _) (fun hHeld => ?_)
              refine tk 0 (.agg #[.int .i64 0, .int .i64 0, .int .i64 0, .int .u64 0, .string ⟨#[]⟩, .slice none 0 0, .int .i64 0, .int .i64 0, .int .i64 0]) (h := ?_)
              refine tk 1 (.agg #[.int .i64 2, .int .i64 12, .slice al L1 cl, .bool cr, .bool ar, .int .i64 lf]) (hy := (yields_load (by rfl) 33 _ (by rfl) _ _ (by rfl) (GD.out))) (h := ?_)
              refine ready_store 2 rfl (by kernel_rfl) (by rfl) 43 _ _ (by rfl) _ _ (by rfl) (by rfl) hs1 hS1 ?_
              refine ready_store 3 rfl (by kernel_rfl) (by rfl) 33 _ _ (by rfl) _ _ (by rfl) (by rfl) hs2 hS2 ?_
              refine tk 4 (.slice none 0 0) (h := ?_)
              refine tk 5 (.int .i64 1) (h := ?_)
              refine wpAnyH_done (by kernel_rfl) ?_ _
              refine NoPanic.normal ?_
              go_wp2_with fail
              exact bodyPost_ret (results_jo rfl _ _ (w.heap.size + 1 + 1) (w.heap.size + 1 + 1 + 1) _ _ (.slice none 0 0) (.int .i64 1) rfl rfl rfl rfl HE.out.1 rfl HE.out.2.1 rfl) rfl ⟨rfl, HE.out.2.2⟩
            · exact absurd ⟨by omega, by omega, by omega, by omega, by omega, by omega⟩ hin
set_option maxRecDepth 100000 in
set_option maxHeartbeats 8000000 in
theorem ropen_ {w : World} {d : Dev} {x : RD} {al : Option Addr} {cl : Nat} (hs : RSt w d x al cl) (a : Ar) (hrest : Rest d a) (ep : Nat) (he : ep < 18446744073709551616) (M : Nat → Prop) (hM : ∀ k, M k → k < w.heap.size) :
    Calls Tryz.prog 8 #[rdV x al cl, arV a, .int .u64 ep] w (RopTo w M d a ep) := by
  have hin := hrest.inn
  have hc := hrest.cr
  obtain ⟨i1, i2, i3, i4, i5, i6⟩ := hin
  have hxr := hs.tie.r
  have hxs := hs.tie.s
  rw [hs.rs.1] at hxr i2
  rw [hs.rs.2] at hxs i5 i6
  obtain ⟨n, hn⟩ : ∃ n, n = a.s.toNat := ⟨_, rfl⟩
  have hsn : a.s = (n : Int) := by omega
  have hn1 : 1 ≤ n ∧ n ≤ 12 := by omega
  have hre : ∀ i : Nat, i < n → rErr d (atJ a i) = 0 := fun i hi => by
    unfold rErr
    rw [if_neg (fun e => e (inJ_has hrest.inn (i := i) (by omega))), if_neg (by simp [hc])]
  have HRd : Hid (∀ V (i : Nat), i < n → Below w.heap.size w V → Calls Tryz.prog 29 #[rdV x al cl, .int .i64 a.g, .int .i64 (a.f + i)] V fun e w' => e = .returned (.tuple #[.string (bs (readD d (atJ a i))), .int .i64 0]) ∧ Below V.heap.size V w') := fun V i hi hV => by
    have q := rreadT x d (atJ a i) (hs.ls.on hV) hs.tie hs.len
    rw [hre i hi, if_pos rfl] at q
    exact q
  have hlen := held_len hs.ok a
  have hbyte := held_byte hs.ok a
  obtain ⟨s1, s2, s3, s4⟩ := scan_ok ep _ hbyte
  have hjr := open_okJ hs.ok hrest.inn hrest.lim he
  have hcnt := hjr.count
  have hrl := hjr.row_le
  have hop := open_good hs.ok hrest.pend hrest.cr hrest.arm hrest.inn hrest.lim he
  have hrow := open_row (a := a) (ep := ep) hs.ok
  have hrowlen : (openJ d a ep).row.length = (scan ep (heldJ d a)).2 := s3.symm
  have HSc : Hid (∀ V g c, BytesIn V (some ⟨g, 0, none⟩) (heldJ d a) → 64 * n ≤ c → Calls Tryz.prog 30 #[.int .u64 ep, .slice (some ⟨g, 0, none⟩) (64 * n) c] V fun e w' => ∃ la lc, e = .returned (.tuple #[.slice la (openJ d a ep).pss.length lc, .int .i64 ((scan ep (heldJ d a)).2 : Nat)]) ∧ ListIn w' la (openJ d a ep).pss ∧ Below V.heap.size V w') := fun V g c hb hcap =>
    (rscan_ ep (some ⟨g, 0, none⟩) (heldJ d a) (64 * n) c V hb hbyte (fun q => by cases q) (by rw [hlen, hn]) (by omega) hcap).mono fun e w' ⟨la, lc, q1, q2, q3, _, q4⟩ => ⟨la, lc, q1, q2, q4⟩
  have HCl0 : Hid (∀ V, Below w.heap.size w V → Calls Tryz.prog 31 #[rdV x al cl, arV a, .string (bs (openJ d a ep).row)] V (RclTo V a (openJ d a ep).row d)) := fun V hV => rclean_ x al cl d a _ (hs.ls.on hV) hs.tie hs.ok hs.rs hs.lf hrest.pend hc hrest.inn hjr.byte (by rw [hrow]; exact begins_held hs.ok _) hjr.len
  have HEn : Hid (∀ V la lc, ListIn V la (openJ d a ep).pss → Calls Tryz.prog 32 #[.int .u64 ep, .slice la (openJ d a ep).pss.length lc] V fun e w' => ∃ ea ec, e = .returned (.slice ea (openJ d a ep).pss.length ec) ∧ OwnI w' V.heap.size (.slice ea (openJ d a ep).pss.length ec) (openJ d a ep).ends ∧ Below V.heap.size V w') := fun V la lc hl => (rends_ ep la _ _ lc V hl rfl s4 he hrl hcnt).mono fun e w' ⟨v, q1, q2, q3⟩ => by
    obtain ⟨ea, ec, hv, _⟩ := OwnI.shape q2
    have hel : (endsL ep (openJ d a ep).pss).length = (openJ d a ep).pss.length := endsL_length _ _
    rw [hel] at hv
    subst hv
    exact ⟨ea, ec, q1, q2, q3⟩
  have hupto : (openJ d a ep).upto (openJ d a ep).pss.length = (scan ep (heldJ d a)).2 := by rw [upto_all]; exact hrowlen
  have HFin : Hid (∀ (U4 U6 V1 V2 : World) (x' : RD) (a' : Option Addr) (c' : Nat) (ea : Option Addr) (ec : Nat) (la : Option Addr) (lc L' : Nat), x'.l.length = L' → Four2 w U4 #[.int .i64 x.r, .int .i64 x.s, .slice al x.l.length cl, .bool x.crashed, .bool x.armed, .int .i64 x.left] #[.int .i64 a.g, .int .i64 a.f, .int .i64 a.s] → Four2 w U6 #[.int .i64 x.r, .int .i64 x.s, .slice al x.l.length cl, .bool x.crashed, .bool x.armed, .int .i64 x.left] #[.int .i64 a.g, .int .i64 a.f, .int .i64 a.s] → Tie (cleanD a (openJ d a ep).row d) x' → LstS U6 a' c' x'.l → ListIn U6 la (openJ d a ep).pss → OwnI U6 U4.drew.heap.size (.slice ea (openJ d a ep).pss.length ec) (openJ d a ep).ends →
      Put U6 (w.heap.size + 1 + 1) #[.int .i64 a.g, .int .i64 a.f, .int .i64 a.s, .int .u64 ep, .string (bs (openJ d a ep).row), .slice ea (openJ d a ep).pss.length ec, .int .i64 ((scan ep (heldJ d a)).2 : Nat), .int .i64 0, .int .i64 0] 43 V1 → Put V1 (w.heap.size + 1 + 1 + 1) #[.int .i64 x'.r, .int .i64 x'.s, .slice a' L' c', .bool x'.crashed, .bool x'.armed, .int .i64 x'.left] 33 V2 →
      RopTo w M d a ep (.returned (.tuple #[.agg #[.int .i64 a.g, .int .i64 a.f, .int .i64 a.s, .int .u64 ep, .string (bs (openJ d a ep).row), .slice ea (openJ d a ep).pss.length ec, .int .i64 ((scan ep (heldJ d a)).2 : Nat), .int .i64 0, .int .i64 0], .agg #[.int .i64 x'.r, .int .i64 x'.s, .slice a' L' c', .bool x'.crashed, .bool x'.armed, .int .i64 x'.left], .slice la (openJ d a ep).pss.length lc, .int .i64 0])) V2) := fun U4 U6 V1 V2 x' a' c' ea ec la lc L' hL hX4 hX6 hT hLs hLi hO hp1 hp2 => by
    subst hL
    have hod1 := (hp1.far _ (by omega)).trans hX6.od
    have hb2 : Below w.heap.size w V2 := hp2.below (hp1.below hX6.bw (by omega)) (by omega)
    have hsz4 : w.heap.size + 1 + 1 + 1 < U4.heap.size := blk_lt hX4.od
    obtain ⟨ea2, ec2, hv, hEd⟩ := edF_own hO (M := M) (fun k hk => by have := hM k hk; have : U4.drew.heap.size = U4.heap.size := rfl; omega)
    obtain ⟨rfl, rfl⟩ : ea = ea2 ∧ ec = ec2 := by injection hv with q1 q2 q3; exact ⟨q1, q3⟩
    have hfar : ∀ (gg oo : Nat), ea = some ⟨gg, oo, none⟩ → w.heap.size + 1 + 1 + 1 < gg := fun gg oo e => by
      have q := (World.ownsRow.lt hO gg (by rw [e]; rfl)).1
      have : U4.drew.heap.size = U4.heap.size := rfl
      omega
    have hLi2 : ListIn V2 la (openJ d a ep).pss := (hLi.put hjr.pays hX6.oj (noList_zj _) hp1).put hjr.pays hod1 (noList_zr _) hp2
    refine ⟨x', a', c', ea, ec, la, lc, ?_, (hLs.put hp1 (by decide) ⟨_, _, hX6.oj⟩).put hp2 (by decide) ⟨_, _, hod1⟩, hT, ⟨(hEd.ends.put hp1 (fun gg oo e => by have := hfar gg oo e; omega)).put hp2 (fun gg oo e => by have := hfar gg oo e; omega), hEd.cap⟩, hLi2, hb2⟩
    have q1 : (openJ d a ep).ends.length = (openJ d a ep).pss.length := ends_len _
    have q2 : (openJ d a ep).pss.length - (openJ d a ep).sf = 0 := Nat.sub_self _
    have q3 : (openJ d a ep).upto (openJ d a ep).sf = (scan ep (heldJ d a)).2 := hupto
    unfold rjV
    rw [q1, q2, q3]; rfl
  have hsz : (scan ep (heldJ d a)).2 ≤ 64 * n := by rw [hn, ← hlen]; exact s2
  have hex : (bs (heldJ d a)).extract 0 (scan ep (heldJ d a)).2 = bs (openJ d a ep).row := by rw [bs_take, hrow]
  have hhb : (bs (heldJ d a)).size = 64 * n := by rw [bs_size, hlen, hn]
  have HBk : Hid (∀ V : World, ∃ c V', (convert 9 53 (.string (bs (heldJ d a)))).run Tryz.prog V = .ok (.slice (some ⟨V.heap.size, 0, none⟩) (64 * n) c) V' ∧ BytesIn V' (some ⟨V.heap.size, 0, none⟩) (heldJ d a) ∧ 64 * n ≤ c ∧ Below V.heap.size V V') := fun V => by
    obtain ⟨c, V', q1, q2, q3, q4⟩ := conv_backB V (heldJ d a) hbyte
    rw [hlen, ← hn] at q1 q3
    exact ⟨c, V', q1, q2, q3, q4⟩
  have HHd : Hid (heldJ d a = secsB d a.g a.f n) := by show _ = _; unfold heldJ; rw [hn]
  have HLen : Hid (∀ i, (secsB d a.g a.f i).length = 64 * i) := secsB_len hs.ok a.g a.f
  have HLen2 : Hid (∀ k, (readD d k).length = 64) := fun k => (okC_read hs.ok k).1
  unfold RclTo arV at HCl0
  rw [hop.1] at HCl0
  clear hre hlen hbyte s1 s2 s3 s4 hjr hrl hcnt hop hrow hrowlen hupto hs hrest hc hM hn
  unfold rdV rdC at *

  obtain ⟨W, hW⟩ : ∃ W, W = (((w.alloc (.cells #[.int .i64 x.r, .int .i64 x.s, .slice al x.l.length cl, .bool x.crashed, .bool x.armed, .int .i64 x.left] 33)).alloc (.cells #[.int .i64 a.g, .int .i64 a.f, .int .i64 a.s] 23)).alloc (.cells #[.int .i64 0, .int .i64 0, .int .i64 0, .int .u64 0, .string ⟨#[]⟩, .slice none 0 0, .int .i64 0, .int .i64 0, .int .i64 0] 43)).alloc (.cells #[.int .i64 0, .int .i64 0, .slice none 0 0, .bool false, .bool false, .int .i64 0] 33) := ⟨_, rfl⟩
  have hWf := four_at w (.cells #[.int .i64 x.r, .int .i64 x.s, .slice al x.l.length cl, .bool x.crashed, .bool x.armed, .int .i64 x.left] 33) (.cells #[.int .i64 a.g, .int .i64 a.f, .int .i64 a.s] 23) (.cells #[.int .i64 0, .int .i64 0, .int .i64 0, .int .u64 0, .string ⟨#[]⟩, .slice none 0 0, .int .i64 0, .int .i64 0, .int .i64 0] 43) (.cells #[.int .i64 0, .int .i64 0, .slice none 0 0, .bool false, .bool false, .int .i64 0] 33)
  rw [← hW] at hWf
  obtain ⟨q1, q2, q3, q4, q5⟩ := hWf
  have HX : Hid (Four2 w W #[.int .i64 x.r, .int .i64 x.s, .slice al x.l.length cl, .bool x.crashed, .bool x.armed, .int .i64 x.left] #[.int .i64 a.g, .int .i64 a.f, .int .i64 a.s]) := ⟨q1, q2, q3, q4, q5⟩
  have HW := Lib.hid hW
  clear hW q1 q2 q3 q4 q5
  generalize hm : (openJ d a ep).pss.length = m at *
  generalize bs (openJ d a ep).row = RW at *
  generalize (scan ep (heldJ d a)).2 = sz at *
  clear hm

  generalize x.l.length = L1 at *
  generalize x.r = r at *
  generalize x.s = s9 at *
  generalize x.crashed = cr at *
  generalize x.armed = ar at *
  generalize x.left = lf at *
  unfold arV
  obtain ⟨g, f, az⟩ := a
  dsimp only at *
  subst hsn
  generalize hHB : bs (heldJ d ⟨g, f, (n : Int)⟩) = HB at *
  have HHB := Lib.hid hHB
  subst hxr hxs
  obtain ⟨y0, y1, y2⟩ := ar_cells HX.out.a
  obtain ⟨z0, z1, z2, z3, z4, z5⟩ := rd_cells HX.out.d
  have wsub := wraps_i64 (12 - (n : Int)) (by omega) (by omega)
  have k1 : ¬ g < 0 := by omega
  have k2 : ¬ g ≥ 2 := by omega
  have k3 : ¬ f < 0 := by omega
  have k4 : ¬ (n : Int) < 1 := by omega
  have k5 : ¬ (n : Int) > 12 := by omega
  have k6 : ¬ f > 12 - (n : Int) := by omega
  clear hHB
  go_enter Tryz.func8, Tryz.ntmps8
  go_wp2_with fail
  rw [← HW.out]
  clear HW
  go_loopw [10, 11] (fun sv iv wr => ∃ i : Nat, sv = .string (bs (secsB d g f i)) ∧ iv = .int .i64 i ∧ i ≤ n ∧ Hid (Four2 w wr #[.int .i64 2, .int .i64 12, .slice al L1 cl, .bool cr, .bool ar, .int .i64 lf] #[.int .i64 g, .int .i64 f, .int .i64 (n : Int)])) (fun _ iv _ => n - (intOf iv).toNat)
  case atStart => exact ⟨0, rfl, rfl, Nat.zero_le _, HX⟩
  case round =>
    clear y0 y1 y2 z0 z1 z2 z3 z4 z5 HX
    obtain ⟨i, rfl, rfl, hiq, HX⟩ := hrel
    obtain ⟨y0, y1, y2⟩ := ar_cells HX.out.a
    have HLd := Lib.hid (load_rd HX.out.d rfl)
    by_cases hlt : i < n
    · have hlt2 : (i : Int) < (n : Int) := by omega
      have wi := wraps_i64 (f + i) (by omega) (by omega)
      have HC := Lib.hid (HRd.out _ i hlt HX.out.bw)
      have hsi : (bs (secsB d g f i)).size + (bs (readD d (atJ ⟨g, f, (n : Int)⟩ i))).size ≤ 1048576 := by rw [bs_size, bs_size, HLen.out, HLen2.out]; omega
      have HA := Lib.hid (bs_append (secsB d g f i) (readD d (atJ ⟨g, f, (n : Int)⟩ i)))
      have HS : Hid (secsB d g f (i + 1) = secsB d g f i ++ readD d (atJ ⟨g, f, (n : Int)⟩ i)) := secsB_snoc d g f i
      generalize readD d (atJ ⟨g, f, (n : Int)⟩ i) = ct at *
      generalize secsB d g f i = si at *
      go_wp2_with (first
        | (refine wpList_load_at rfl 33 _ rfl _ _ rfl HLd.out ?_)
        | (go_at_call 29; refine HC.out.mono ?_; rintro e w2 ⟨rfl, hb2⟩; have HX2 := Lib.hid (HX.out.on hb2); clear hb2)
        | fail)
      exact ⟨⟨i + 1, by rw [HS.out, ← HA.out], by go_num, by omega, HX2⟩, by simp [intOf]; omega⟩
    · have hlt2 : ¬ (i : Int) < (n : Int) := by omega
      obtain rfl : i = n := by omega
      have hHB2 : bs (secsB d g f i) = HB := by rw [← HHB.out, HHd.out]
      obtain ⟨c1, V1, hcv, hby1, hcap1, hb1⟩ := HBk.out wr
      rw [hHB2]
      have HSc1 := Lib.hid (HSc.out V1 _ c1 hby1 hcap1)
      have HX1 := Lib.hid (HX.out.on hb1)
      clear hby1 hcap1 hb1 hHB2 HHB HHd HLen HLen2 HBk HRd HSc
      generalize h64 : 64 * i = n64 at *
      have hu : decide ((sz : Int) ≤ (n64 : Int)) = true := decide_eq_true (by omega)
      go_wp2_with fail
      refine HSc1.out.mono ?_
      rintro e w3 ⟨la, lc, rfl, hli3, hb3⟩
      have HX3 := Lib.hid (HX1.out.on hb3)
      have HLi3 := Lib.hid hli3
      have HCl := Lib.hid (fun V (hV : Below w3.heap.size w3 V) => HCl0.out V (below_step HX3.out.bw hV))
      have KD : Hid (∀ V, Below w3.heap.size w3 V → (Instr.loadAt 33 (.pointer (some ⟨w.heap.size, 0, none⟩))).run Tryz.prog V = .ok (.agg #[.int .i64 2, .int .i64 12, .slice al L1 cl, .bool cr, .bool ar, .int .i64 lf]) V) := fun V hV => load_rd (HX3.out.on hV).d rfl
      have KA : Hid (∀ V, Below w3.heap.size w3 V → (Instr.loadAt 23 (.pointer (some ⟨w.heap.size + 1, 0, none⟩))).run Tryz.prog V = .ok (.agg #[.int .i64 g, .int .i64 f, .int .i64 (i : Int)]) V) := fun V hV => load_ra3 (HX3.out.on hV).a
      clear hli3 hb3 HSc1 HX1 HX HCl0 HLd y0 y1 y2
      go_wp2_with fail
      refine wp_region_noPanic ?_
      refine wp_region_held_drew (S := fun V => Below w3.heap.size w3 V) (by kernel_rfl) (below_drew _) (fun hHeld => ?_)
      refine tk 0 (.agg #[.int .i64 2, .int .i64 12, .slice al L1 cl, .bool cr, .bool ar, .int .i64 lf]) (hy := (yields_load (by rfl) 33 _ (by rfl) _ _ (by rfl) (KD.out))) (h := ?_)
      refine tk 1 (.agg #[.int .i64 g, .int .i64 f, .int .i64 (i : Int)]) (hy := (yields_load (by rfl) 23 _ (by rfl) _ _ (by rfl) (KA.out))) (h := ?_)
      refine tk 2 (.string HB) (h := ?_)
      refine tk 3 (.int .i64 (sz : Nat)) (h := ?_)
      refine tk 4 (.string RW) (h := ?_)
      clear KD KA

      refine wpAnyH_ready (rs := [5, 9]) (by kernel_rfl) (by simp) ?_
      refine AllReadyH.cons rfl (fun KK hK => ?_) (AllReadyH.cons rfl (fun KK hK => ?_) AllReadyH.nil)
      · go_simp
        go_wp2_with (first | (go_at_call 31; refine (HCl.out _ (below_drew _)).mono ?_; rintro e U2 ⟨x', a', c', rfl, hL2, hT2, hb2⟩))
        refine hK.out _ _ ?_ (fun hHeld5 => ?_)
        · exact below_step (below_drew _) hb2
        clear hK KK
        obtain ⟨r', s', l', cr', ar', lf'⟩ := x'
        dsimp only at hL2 hT2 ⊢
        generalize hL' : l'.length = L' at *
        have HT2 := Lib.hid (And.intro hT2 hL')
        clear hT2 hL'

        obtain ⟨U4, hst, hput⟩ := put_rd (cs := #[.int .i64 r', .int .i64 s', .slice a' L' c', .bool cr', .bool ar', .int .i64 lf']) (alloc_at U2 (.cells #[.int .i64 0, .int .i64 0, .slice none 0 0, .bool false, .bool false, .int .i64 0] 33)) rfl rfl (six_one _ _ _ _ _ _ _ _)
        have hSa : Below w3.heap.size w3 (U2.alloc (.cells #[.int .i64 0, .int .i64 0, .slice none 0 0, .bool false, .bool false, .int .i64 0] 33)) := below_step hHeld5 (below_alloc _ _)
        have hSs : Below w3.heap.size w3 U4 := hput.below hSa hHeld5.size
        obtain ⟨BX, hBX⟩ : ∃ BX, BX = U2.heap.size := ⟨_, rfl⟩
        have HU : Hid (U4.heap[BX]? = some (.cells #[.int .i64 r', .int .i64 s', .slice a' L' c', .bool cr', .bool ar', .int .i64 lf'] 33 (0, 0)) ∧ Below w3.heap.size w3 U4 ∧ LstS U4 a' c' l' ∧ w3.heap.size ≤ BX) := by rw [hBX]; exact ⟨hput.blk, hSs, (hL2.on (below_alloc U2 _)).put hput (by decide) ⟨_, _, alloc_at U2 _⟩, hHeld5.size⟩
        refine tk 6 (.tuple #[.agg #[.int .i64 r', .int .i64 s', .slice a' L' c', .bool cr', .bool ar', .int .i64 lf'], .int .i64 0]) (h := ?_)
        refine tk 7 (.agg #[.int .i64 r', .int .i64 s', .slice a' L' c', .bool cr', .bool ar', .int .i64 lf']) (h := ?_)
        refine tk 8 (.int .i64 0) (h := ?_)
        refine ready_alloc_rd 9 rfl (by kernel_rfl) (by rfl) (by rfl) hSa ?_
        refine ready_store 10 rfl (by kernel_rfl) (by rfl) 33 _ _ (by rfl) _ _ (by rfl) (by rfl) hst hSs ?_
        refine tk 11 (.int .i64 0) (h := ?_)
        refine wpAnyH_done (by kernel_rfl) ?_ _
        refine NoPanic.normal ?_
        rw [← hBX]
        clear hst hSa hSs hput hL2 hb2 hHeld hHeld5 hBX
        have hBq : w.heap.size + 1 + 1 + 1 < BX := by have := blk_lt HX3.out.od; have := HU.out.2.2.2; omega
        have HX4 := Lib.hid (HX3.out.on HU.out.2.1)
        have HLi4 := Lib.hid (HLi3.out.on HU.out.2.1)
        have GA : Hid (∀ V, Two (w.heap.size + 1 + 1) (w.heap.size + 1 + 1 + 1) U4 V → (Instr.loadAt 23 (.pointer (some ⟨w.heap.size + 1, 0, none⟩))).run Tryz.prog V = .ok (.agg #[.int .i64 g, .int .i64 f, .int .i64 (i : Int)]) V) := fun V hV => load_ra3 (hV.at HX4.out.a (by omega) (by omega))
        have GD : Hid (∀ V, Two (w.heap.size + 1 + 1) (w.heap.size + 1 + 1 + 1) U4 V → (Instr.loadAt 33 (.pointer (some ⟨BX, 0, none⟩))).run Tryz.prog V = .ok (.agg #[.int .i64 r', .int .i64 s', .slice a' L' c', .bool cr', .bool ar', .int .i64 lf']) V) := fun V hV => load_rd (hV.at HU.out.1 (by omega) (by omega)) rfl
        have HEn4 := Lib.hid (HEn.out U4.drew la lc (HLi4.out.on (below_drew U4)))
        clear HEn HX3 HLi3
        go_wp2_with fail
        refine wp_region_noPanic ?_
        refine wp_region_held_drew (S := fun V => Two (w.heap.size + 1 + 1) (w.heap.size + 1 + 1 + 1) U4 V) (by kernel_rfl) (Two.drew _ _ _) (fun hHeld => ?_)
        refine tk 0 (.agg #[.int .i64 g, .int .i64 f, .int .i64 (i : Int)]) (hy := (yields_load (by rfl) 23 _ (by rfl) _ _ (by rfl) (GA.out))) (h := ?_)
        refine tk 1 (.int .u64 ep) (h := ?_)
        refine tk 2 (.string HB) (h := ?_)
        refine tk 3 (.int .i64 (sz : Nat)) (h := ?_)
        refine tk 4 (.string RW) (h := ?_)
        refine tk 5 (.int .u64 ep) (h := ?_)
        refine tk 6 (.slice la m lc) (h := ?_)
        refine tk 8 (.int .i64 (sz : Nat)) (h := ?_)
        refine tk 10 (.agg #[.int .i64 r', .int .i64 s', .slice a' L' c', .bool cr', .bool ar', .int .i64 lf']) (hy := (yields_load (by rfl) 33 _ (by rfl) _ _ (by rfl) (GD.out))) (h := ?_)
        refine tk 11 (.slice la m lc) (h := ?_)
        refine wpAnyH_ready (rs := [7]) (by kernel_rfl) (by simp) ?_
        refine AllReadyH.cons rfl (fun KK hK => ?_) AllReadyH.nil
        go_simp
        go_wp2_with (first | (go_at_call 32; refine HEn4.out.mono ?_; rintro e U6 ⟨ea, ec, rfl, hEd6, hb6⟩))
        refine hK.out _ _ ?_ (fun hHeld7 => ?_)
        · exact Two.on (Two.drew _ _ _) hb6
        clear hK KK
        have HX6 := Lib.hid ((HX4.out.on (below_drew U4)).on hb6)
        have HLs6 := Lib.hid ((HU.out.2.2.1.on (below_drew U4)).on hb6)
        have HLi6 := Lib.hid ((HLi4.out.on (below_drew U4)).on hb6)
        obtain ⟨V1, hs1, hp1⟩ := put_rj (w := U6) (cs := #[.int .i64 g, .int .i64 f, .int .i64 (i : Int), .int .u64 ep, .string RW, .slice ea m ec, .int .i64 (sz : Nat), .int .i64 0, .int .i64 0]) HX6.out.oj rfl rfl (by simp [Value.oneCell'])
        obtain ⟨V2, hs2, hp2⟩ := put_rd (w := V1) (cs := #[.int .i64 r', .int .i64 s', .slice a' L' c', .bool cr', .bool ar', .int .i64 lf']) ((hp1.far _ (by omega)).trans HX6.out.od) rfl rfl (six_one _ _ _ _ _ _ _ _)
        have hS1 : Two (w.heap.size + 1 + 1) (w.heap.size + 1 + 1 + 1) U4 V1 := Two.put hHeld7 hp1 (.inl rfl)
        have hS2 : Two (w.heap.size + 1 + 1) (w.heap.size + 1 + 1 + 1) U4 V2 := hS1.put hp2 (.inr rfl)
        have hB2v : Below U4.heap.size U4 U4 := Below.refl _ _
        have HE := Lib.hid (And.intro ((hp2.far _ (by omega)).trans hp1.blk : V2.heap[w.heap.size + 1 + 1]? = some (.cells #[.int .i64 g, .int .i64 f, .int .i64 (i : Int), .int .u64 ep, .string RW, .slice ea m ec, .int .i64 (sz : Nat), .int .i64 0, .int .i64 0] 43 (0, 0))) (And.intro hp2.blk (HFin.out U4 U6 V1 V2 ⟨r', s', l', cr', ar', lf'⟩ a' c' ea ec la lc L' HT2.out.2 HX4.out HX6.out HT2.out.1 HLs6.out HLi6.out hEd6 hp1 hp2)))
        clear hp1 hp2 hEd6 HX6 HLs6 HLi6 HEn4 hB2v hb6 HU HX4 HLi4 HFin
        refine tk 9 (.agg #[.int .i64 g, .int .i64 f, .int .i64 (i : Int), .int .u64 ep, .string RW, .slice ea m ec, .int .i64 (sz : Nat), .int .i64 0, .int .i64 0]) (h := ?_)
        refine ready_store 12 rfl (by kernel_rfl) (by rfl) 43 _ _ (by rfl) _ _ (by rfl) (by rfl) hs1 hS1 ?_
        refine ready_store 13 rfl (by kernel_rfl) (by rfl) 33 _ _ (by rfl) _ _ (by rfl) (by rfl) hs2 hS2 ?_
        refine tk 14 (.slice la m lc) (h := ?_)
        refine tk 15 (.int .i64 0) (h := ?_)
        refine wpAnyH_done (by kernel_rfl) ?_ _
        refine NoPanic.normal ?_
        go_wp2_with fail
        exact bodyPost_ret (results_jo rfl _ _ (w.heap.size + 1 + 1) (w.heap.size + 1 + 1 + 1) _ _ (.slice la m lc) (.int .i64 0) rfl rfl rfl rfl HE.out.1 rfl HE.out.2.1 rfl) rfl HE.out.2.2

      · go_simp
        have hBz : Below w3.heap.size w3 (w3.alloc (.cells #[.int .i64 0, .int .i64 0, .slice none 0 0, .bool false, .bool false, .int .i64 0] 33)).drew := below_step (below_alloc _ _) (below_drew _)
        refine hK.out _ _ ?_ (fun hHeld9 => ?_)
        · exact hBz
        clear hK KK
        have hz13 : ((w3.alloc (.cells #[.int .i64 0, .int .i64 0, .slice none 0 0, .bool false, .bool false, .int .i64 0] 33)).drew).heap[w3.heap.size]? = some (.cells #[.int .i64 0, .int .i64 0, .slice none 0 0, .bool false, .bool false, .int .i64 0] 33 (0, 0)) := alloc_at w3 _
        have HSz := Lib.hid (HCl.out _ hBz)
        have HBz := Lib.hid (And.intro hBz hz13)
        clear hBz hz13
        generalize (w3.alloc (.cells #[.int .i64 0, .int .i64 0, .slice none 0 0, .bool false, .bool false, .int .i64 0] 33)).drew = Uz at *
        refine wpAnyH_ready (rs := [5]) (by kernel_rfl) (by simp) ?_
        refine AllReadyH.cons rfl (fun KK hK => ?_) AllReadyH.nil
        go_simp
        go_wp2_with (first | (go_at_call 31; refine HSz.out.mono ?_; rintro e U2 ⟨x', a', c', rfl, hL2, hT2, hb2⟩))
        refine hK.out _ _ ?_ (fun hHeld5 => ?_)
        · exact below_step HBz.out.1 hb2
        clear hK KK
        obtain ⟨r', s', l', cr', ar', lf'⟩ := x'
        dsimp only at hL2 hT2 ⊢
        generalize hL' : l'.length = L' at *
        have HT2 := Lib.hid (And.intro hT2 hL')
        clear hT2 hL'

        have hz := (hb2.block _ (blk_lt HBz.out.2)).trans HBz.out.2
        obtain ⟨U4, hst, hput⟩ := put_rd (cs := #[.int .i64 r', .int .i64 s', .slice a' L' c', .bool cr', .bool ar', .int .i64 lf']) hz rfl rfl (six_one _ _ _ _ _ _ _ _)
        have hSs : Below w3.heap.size w3 U4 := hput.below hHeld5 (Nat.le_refl _)
        obtain ⟨BX, hBX⟩ : ∃ BX, BX = w3.heap.size := ⟨_, rfl⟩
        have HU : Hid (U4.heap[BX]? = some (.cells #[.int .i64 r', .int .i64 s', .slice a' L' c', .bool cr', .bool ar', .int .i64 lf'] 33 (0, 0)) ∧ Below w3.heap.size w3 U4 ∧ LstS U4 a' c' l' ∧ w3.heap.size ≤ BX) := by rw [hBX]; exact ⟨hput.blk, hSs, hL2.put hput (by decide) ⟨_, _, hz⟩, Nat.le_refl _⟩
        refine tk 6 (.tuple #[.agg #[.int .i64 r', .int .i64 s', .slice a' L' c', .bool cr', .bool ar', .int .i64 lf'], .int .i64 0]) (h := ?_)
        refine tk 7 (.agg #[.int .i64 r', .int .i64 s', .slice a' L' c', .bool cr', .bool ar', .int .i64 lf']) (h := ?_)
        refine tk 8 (.int .i64 0) (h := ?_)
        refine ready_store 10 rfl (by kernel_rfl) (by rfl) 33 _ _ (by rfl) _ _ (by rfl) (by rfl) hst hSs ?_
        refine tk 11 (.int .i64 0) (h := ?_)
        refine wpAnyH_done (by kernel_rfl) ?_ _
        refine NoPanic.normal ?_
        rw [← hBX]
        clear hst hSs hput hL2 hb2 hz hHeld hHeld5 hHeld9 hBX HBz HSz
        have hBq : w.heap.size + 1 + 1 + 1 < BX := by have := blk_lt HX3.out.od; have := HU.out.2.2.2; omega
        have HX4 := Lib.hid (HX3.out.on HU.out.2.1)
        have HLi4 := Lib.hid (HLi3.out.on HU.out.2.1)
        have GA : Hid (∀ V, Two (w.heap.size + 1 + 1) (w.heap.size + 1 + 1 + 1) U4 V → (Instr.loadAt 23 (.pointer (some ⟨w.heap.size + 1, 0, none⟩))).run Tryz.prog V = .ok (.agg #[.int .i64 g, .int .i64 f, .int .i64 (i : Int)]) V) := fun V hV => load_ra3 (hV.at HX4.out.a (by omega) (by omega))
        have GD : Hid (∀ V, Two (w.heap.size + 1 + 1) (w.heap.size + 1 + 1 + 1) U4 V → (Instr.loadAt 33 (.pointer (some ⟨BX, 0, none⟩))).run Tryz.prog V = .ok (.agg #[.int .i64 r', .int .i64 s', .slice a' L' c', .bool cr', .bool ar', .int .i64 lf']) V) := fun V hV => load_rd (hV.at HU.out.1 (by omega) (by omega)) rfl
        have HEn4 := Lib.hid (HEn.out U4.drew la lc (HLi4.out.on (below_drew U4)))
        clear HEn HX3 HLi3
        go_wp2_with fail
        refine wp_region_noPanic ?_
        refine wp_region_held_drew (S := fun V => Two (w.heap.size + 1 + 1) (w.heap.size + 1 + 1 + 1) U4 V) (by kernel_rfl) (Two.drew _ _ _) (fun hHeld => ?_)
        refine tk 0 (.agg #[.int .i64 g, .int .i64 f, .int .i64 (i : Int)]) (hy := (yields_load (by rfl) 23 _ (by rfl) _ _ (by rfl) (GA.out))) (h := ?_)
        refine tk 1 (.int .u64 ep) (h := ?_)
        refine tk 2 (.string HB) (h := ?_)
        refine tk 3 (.int .i64 (sz : Nat)) (h := ?_)
        refine tk 4 (.string RW) (h := ?_)
        refine tk 5 (.int .u64 ep) (h := ?_)
        refine tk 6 (.slice la m lc) (h := ?_)
        refine tk 8 (.int .i64 (sz : Nat)) (h := ?_)
        refine tk 10 (.agg #[.int .i64 r', .int .i64 s', .slice a' L' c', .bool cr', .bool ar', .int .i64 lf']) (hy := (yields_load (by rfl) 33 _ (by rfl) _ _ (by rfl) (GD.out))) (h := ?_)
        refine tk 11 (.slice la m lc) (h := ?_)
        refine wpAnyH_ready (rs := [7]) (by kernel_rfl) (by simp) ?_
        refine AllReadyH.cons rfl (fun KK hK => ?_) AllReadyH.nil
        go_simp
        go_wp2_with (first | (go_at_call 32; refine HEn4.out.mono ?_; rintro e U6 ⟨ea, ec, rfl, hEd6, hb6⟩))
        refine hK.out _ _ ?_ (fun hHeld7 => ?_)
        · exact Two.on (Two.drew _ _ _) hb6
        clear hK KK
        have HX6 := Lib.hid ((HX4.out.on (below_drew U4)).on hb6)
        have HLs6 := Lib.hid ((HU.out.2.2.1.on (below_drew U4)).on hb6)
        have HLi6 := Lib.hid ((HLi4.out.on (below_drew U4)).on hb6)
        obtain ⟨V1, hs1, hp1⟩ := put_rj (w := U6) (cs := #[.int .i64 g, .int .i64 f, .int .i64 (i : Int), .int .u64 ep, .string RW, .slice ea m ec, .int .i64 (sz : Nat), .int .i64 0, .int .i64 0]) HX6.out.oj rfl rfl (by simp [Value.oneCell'])
        obtain ⟨V2, hs2, hp2⟩ := put_rd (w := V1) (cs := #[.int .i64 r', .int .i64 s', .slice a' L' c', .bool cr', .bool ar', .int .i64 lf']) ((hp1.far _ (by omega)).trans HX6.out.od) rfl rfl (six_one _ _ _ _ _ _ _ _)
        have hS1 : Two (w.heap.size + 1 + 1) (w.heap.size + 1 + 1 + 1) U4 V1 := Two.put hHeld7 hp1 (.inl rfl)
        have hS2 : Two (w.heap.size + 1 + 1) (w.heap.size + 1 + 1 + 1) U4 V2 := hS1.put hp2 (.inr rfl)
        have hB2v : Below U4.heap.size U4 U4 := Below.refl _ _
        have HE := Lib.hid (And.intro ((hp2.far _ (by omega)).trans hp1.blk : V2.heap[w.heap.size + 1 + 1]? = some (.cells #[.int .i64 g, .int .i64 f, .int .i64 (i : Int), .int .u64 ep, .string RW, .slice ea m ec, .int .i64 (sz : Nat), .int .i64 0, .int .i64 0] 43 (0, 0))) (And.intro hp2.blk (HFin.out U4 U6 V1 V2 ⟨r', s', l', cr', ar', lf'⟩ a' c' ea ec la lc L' HT2.out.2 HX4.out HX6.out HT2.out.1 HLs6.out HLi6.out hEd6 hp1 hp2)))
        clear hp1 hp2 hEd6 HX6 HLs6 HLi6 HEn4 hB2v hb6 HU HX4 HLi4 HFin
        refine tk 9 (.agg #[.int .i64 g, .int .i64 f, .int .i64 (i : Int), .int .u64 ep, .string RW, .slice ea m ec, .int .i64 (sz : Nat), .int .i64 0, .int .i64 0]) (h := ?_)
        refine ready_store 12 rfl (by kernel_rfl) (by rfl) 43 _ _ (by rfl) _ _ (by rfl) (by rfl) hs1 hS1 ?_
        refine ready_store 13 rfl (by kernel_rfl) (by rfl) 33 _ _ (by rfl) _ _ (by rfl) (by rfl) hs2 hS2 ?_
        refine tk 14 (.slice la m lc) (h := ?_)
        refine tk 15 (.int .i64 0) (h := ?_)
        refine wpAnyH_done (by kernel_rfl) ?_ _
        refine NoPanic.normal ?_
        go_wp2_with fail
        exact bodyPost_ret (results_jo rfl _ _ (w.heap.size + 1 + 1) (w.heap.size + 1 + 1 + 1) _ _ (.slice la m lc) (.int .i64 0) rfl rfl rfl rfl HE.out.1 rfl HE.out.2.1 rfl) rfl HE.out.2.2
end Go.Proofs.YtjnhcanohefjiaaGreatDoor
