/- The walks of upTo and row. -/
import Derived.Test.YtagamkahfiackaaGreatDoorVnCh
import Derived.Test.YtagamkahfiackaaGreatDoorVNode
namespace Go.Proofs.YtagamkahfiackaaGreatDoor
open Go.RowKit Go.Sort

theorem two_box (w : World) (A B : Obj) : Below w.heap.size w ((w.alloc A).alloc B) ∧ ((w.alloc A).alloc B).heap[w.heap.size]? = some A ∧ ((w.alloc A).alloc B).heap[w.heap.size + 1]? = some B := by
  have hs : (w.alloc A).heap.size = w.heap.size + 1 := by simp [go_sem]
  refine ⟨below_step (below_alloc w A) (below_alloc _ B), ?_, ?_⟩
  · rw [Below.heap_alloc _ _ _ (by rw [hs]; omega)]
    exact new_blk w A
  · rw [← hs]; exact new_blk _ _
set_option maxRecDepth 100000 in
theorem upTo_ {w : World} {v : Vl} {L : List MV} (hn : v.n = L.length) (hv : VerIn w v.a L) (hl : L.length ≤ 1000000) (ha : AscC (pvs L)) (t : Int) :
    Calls Tryz.prog 42 #[.slice v.a v.n v.c, .int .i64 t] w fun e w' => e = .returned (.int .i64 (upC (pvs L) t)) ∧ Below w.heap.size w w' := by
  obtain ⟨W, hW⟩ : ∃ W, W = (w.alloc (.cells #[.slice v.a v.n v.c] 52)).alloc (.cells #[.int .i64 t] 3) := ⟨_, rfl⟩
  obtain ⟨b0, b1, b2⟩ := two_box w (.cells #[.slice v.a v.n v.c] 52) (.cells #[.int .i64 t] 3)
  rw [← hW] at b0 b1 b2
  have hul : upC (pvs L) t ≤ v.n := by rw [hn, ← pvs_len]; exact up_le _ _
  have HS := Lib.hid (search_ (w := W) (bc := w.heap.size) (bt := w.heap.size + 1) hul (by omega) fun V i hV hi => by
    obtain ⟨x, hx⟩ := getElem?_of_lt (show i < L.length by omega)
    have e := up_at ha t (pvs_get hx)
    have := up1_ (w := V) (bc := w.heap.size) (bt := w.heap.size + 1) (t := t) hn (hv.on (below_step b0 hV)) hx (cell_of ((hV.block _ (blk_lt b1)).trans b1) rfl) (cell_of ((hV.block _ (blk_lt b2)).trans b2) rfl)
    rw [show decide (t < x.v.cm) = decide (upC (pvs L) t ≤ i) from by simp only [e]] at this
    exact this)
  have HB := Lib.hid b0
  generalize upC (pvs L) t = u at *
  obtain ⟨a, n, c⟩ := v
  simp only at hW HS
  rw [hW] at HS HB
  clear hn hv b0 b1 b2 hul hW
  go_enter Tryz.func42, Tryz.ntmps42
  go_wp2_with (first | (go_at_call 59; refine HS.out.mono ?_; rintro e w' ⟨rfl, hb⟩; have HB2 := Lib.hid hb; clear hb) | fail)
  go_ret
  exact ⟨rfl, below_step HB.out HB2.out⟩
/-- What a key has as of a commit. -/
def asL (L : List MV) (t : Int) : Option MV := if upC (pvs L) t = 0 then none else L[upC (pvs L) t - 1]?
theorem asL_as {L : List MV} (h : AscC (pvs L)) (t : Int) : asC (pvs L) t = (asL L t).map (·.v) := by
  rw [as_at h]
  unfold asL
  split
  · rfl
  · simp [pvs]
def rwV : Option MV → Vl
  | none => vz
  | some x => if x.v.gn then vz else x.r
def rwB : Option MV → Bool
  | none => false
  | some x => !x.v.gn
set_option maxRecDepth 100000 in
theorem row_ {w : World} {v : Vl} {L : List MV} (hn : v.n = L.length) (hv : VerIn w v.a L) (hl : L.length ≤ 1000000) (ha : AscC (pvs L)) (t : Int) :
    Calls Tryz.prog 24 #[.slice v.a v.n v.c, .int .i64 t] w fun e w' => e = .returned (.tuple #[.slice (rwV (asL L t)).a (rwV (asL L t)).n (rwV (asL L t)).c, .bool (rwB (asL L t))]) ∧ Below w.heap.size w w' := by
  have HU := Lib.hid (upTo_ hn hv hl ha t)
  have hul : upC (pvs L) t ≤ L.length := by rw [← pvs_len]; exact up_le _ _
  obtain ⟨o, ho⟩ : ∃ o, o = asL L t := ⟨_, rfl⟩
  rw [← ho]
  unfold asL at ho
  generalize upC (pvs L) t = u at *
  obtain ⟨a, n, c⟩ := v
  simp only at hn hv HU
  rw [← hn] at hul hl
  rcases Nat.eq_zero_or_pos u with rfl | hp
  · rw [if_pos rfl] at ho
    subst ho
    clear hn hv hul hl
    unfold rwV rwB
    go_enter Tryz.func24, Tryz.ntmps24
    go_wp2_with (first | (go_at_call 42; refine HU.out.mono ?_; rintro e w' ⟨rfl, hb⟩; have HB2 := Lib.hid hb; clear hb) | fail)
    go_ret2
    exact ⟨rfl, HB2.out⟩
  · obtain ⟨j, rfl⟩ : ∃ j, u = j + 1 := ⟨u - 1, by omega⟩
    rw [if_neg (by omega)] at ho
    obtain ⟨x, hx⟩ := getElem?_of_lt (show j < L.length by omega)
    rw [show j + 1 - 1 = j by omega, hx] at ho
    subst ho
    obtain ⟨⟨cm, tx, gn⟩, ⟨ra, rn, rc⟩⟩ := x
    obtain ⟨g, rfl, hg, c1, c2, c3⟩ := hv j _ hx
    simp only at c1 c2 c3
    have HC : Hid (∀ V, Below w.heap.size w V → V.cell? ⟨g, j * 3 + 1, none⟩ = some (.slice ra rn rc) ∧ V.cell? ⟨g, j * 3 + 2, none⟩ = some (.bool gn)) := fun V hV => ⟨(hV.cell (p := ⟨g, j * 3 + 1, none⟩) hg).trans c2, (hV.cell (p := ⟨g, j * 3 + 2, none⟩) hg).trans c3⟩
    have HU' : Hid (Calls Tryz.prog 42 #[.slice (some ⟨g, 0, none⟩) n c, .int .i64 t] w fun e w' => e = .returned (.int .i64 ((j : Int) + 1)) ∧ Below w.heap.size w w') := by
      have := HU.out
      rw [show (((j + 1 : Nat) : Int)) = (j : Int) + 1 by omega] at this
      exact this
    have hjn : (j : Int) < n := by omega
    have hw := wraps_i64 (j : Int) (by omega) (by omega)
    have h0 : ¬ ((j : Int) + 1 = 0) := by omega
    clear HU hn hv hx c1 c2 c3 hg hul
    cases gn with
    | true =>
      simp only [rwV, rwB, if_true, Bool.not_true]
      go_enter Tryz.func24, Tryz.ntmps24
      go_wp2_with (first | (go_at_call 42; refine HU'.out.mono ?_; rintro e w' ⟨rfl, hb⟩; have HB2 := Lib.hid hb; obtain ⟨d1, d2⟩ := HC.out _ hb; clear hb) | fail)
      go_ret2
      exact ⟨rfl, HB2.out⟩
    | false =>
      simp only [rwV, rwB, Bool.false_eq_true, if_false, Bool.not_false]
      go_enter Tryz.func24, Tryz.ntmps24
      go_wp2_with (first | (go_at_call 42; refine HU'.out.mono ?_; rintro e w' ⟨rfl, hb⟩; have HB2 := Lib.hid hb; obtain ⟨d1, d2⟩ := HC.out _ hb; clear hb) | fail)
      go_ret2
      exact ⟨rfl, HB2.out⟩
/-- A version laid behind a chain, or in its last one's place. -/
def withM (L : List MV) (x : MV) : List MV := if lastC (pvs L) = x.v.cm then L.dropLast ++ [x] else L ++ [x]
theorem withM_pvs (L : List MV) (x : MV) : pvs (withM L x) = withC (pvs L) x.v := by
  unfold withM withC
  split <;> simp [pvs]
theorem withM_mem {L : List MV} {x y : MV} (h : y ∈ withM L x) : y = x ∨ y ∈ L := by
  unfold withM at h
  split at h
  · rcases List.mem_append.1 h with h | h
    · exact .inr ((List.dropLast_sublist L).subset h)
    · exact .inl (List.mem_singleton.1 h)
  · rcases List.mem_append.1 h with h | h
    · exact .inr h
    · exact .inl (List.mem_singleton.1 h)
/-- What with leaves. -/
def WithTo (w : World) (v : Vl) (L : List MV) (e : Ending) (w' : World) : Prop :=
  ∃ g cap, e = .returned (.slice (some ⟨g, 0, none⟩) L.length cap) ∧ RowV w' (.slice (some ⟨g, 0, none⟩) L.length cap) L ∧ w.grownBy w' (Value.slice v.a v.n v.c).ownBlock ∧ ((Value.slice v.a v.n v.c).ownBlock = some g ∨ w.heap.size ≤ g)
set_option maxRecDepth 100000 in
set_option maxHeartbeats 1000000 in
theorem with_ {w : World} {v : Vl} {L : List MV} (x : MV) (h : RowV w (.slice v.a v.n v.c) L) (hl : L.length ≤ 1000000) (h1 : 1 ≤ x.v.cm) :
    Calls Tryz.prog 37 #[.slice v.a v.n v.c, .agg #[.int .i64 x.v.cm, .slice x.r.a x.r.n x.r.c, .bool x.v.gn]] w (WithTo w v (withM L x)) := by
  obtain ⟨hn, hv, hc63⟩ := h.shape
  obtain ⟨i0, hi0, hz0, hz1, hz2⟩ := info_parts infoVer
  obtain ⟨W, hW⟩ : ∃ W, W = w.alloc (.cells #[.int .i64 x.v.cm, .slice x.r.a x.r.n x.r.c, .bool x.v.gn] 90) := ⟨_, rfl⟩
  have hB0 : Below w.heap.size w W := by rw [hW]; exact below_alloc _ _
  have hbx : W.heap[w.heap.size]? = some (.cells (vCells x).toArray 90 (0, 0)) := by rw [hW]; exact new_blk _ _
  have HK : Hid (∀ V, Below W.heap.size W V → (Below W.heap.size W V ∧ V.cell? ⟨w.heap.size, 0, none⟩ = some (.int .i64 x.v.cm))) := fun V hV => ⟨hV, cell_of ((hV.block _ (blk_lt hbx)).trans hbx) rfl⟩
  have HL : Hid (∀ V, Below W.heap.size W V → Calls Tryz.prog 30 #[.slice v.a v.n v.c] V fun e w' => e = .returned (.int .i64 (lastC (pvs L))) ∧ w' = V) := fun V hV => last_ hn (hv.on (below_step hB0 hV)) hl
  have HR : Hid (∀ V, Below W.heap.size W V → V.cell? ⟨w.heap.size, 0, none⟩ = some (.int .i64 x.v.cm) ∧ V.cell? ⟨w.heap.size, 1, none⟩ = some (.slice x.r.a x.r.n x.r.c) ∧ V.cell? ⟨w.heap.size, 2, none⟩ = some (.bool x.v.gn) ∧ RowV (V.alloc (.cells (vCells x).toArray 90)) (.slice v.a v.n v.c) L ∧ w.grownBy (V.alloc (.cells (vCells x).toArray 90)) (Value.slice v.a v.n v.c).ownBlock ∧ w.heap.size ≤ V.heap.size) := fun V hV => by
    have hb := (hV.block _ (blk_lt hbx)).trans hbx
    have hwV := below_step hB0 hV
    have hwA := below_step hwV (below_alloc V (.cells (vCells x).toArray 90))
    exact ⟨cell_of hb rfl, cell_of hb rfl, cell_of hb rfl, row_on h hwA, grown_below _ hwA, hwV.size⟩
  have HZ : Hid (W = w.alloc (.cells #[.int .i64 x.v.cm, .slice x.r.a x.r.n x.r.c, .bool x.v.gn] 90)) := hW
  have hone : ∀ u ∈ vCells x, u.oneCell' = true := fun u hu => cV_one [x] u (by simpa [cV] using hu)
  have HN : Hid (∀ V : World, ∀ j u, (vCells x)[j]? = some u → (V.alloc (.cells (vCells x).toArray 90)).cell? ((⟨V.heap.size, 0, none⟩ : Addr).add j) = some u) := fun V j u hj => World.news_of_block (new_blk V _) j u hj
  have HS : Hid (W.heap.size = w.heap.size + 1) := by show _ = _; rw [hW]; simp [go_sem]
  by_cases hle : lastC (pvs L) = x.v.cm
  · rcases snoc_cases L with rfl | ⟨D, y, rfl⟩
    · rw [show lastC (pvs []) = 0 from rfl] at hle; omega
    · have hnd : v.n = D.length + 1 := by rw [hn]; simp
      obtain ⟨g0, c0, cur, e0, hg0, hnc, hcm, hcs, hx0⟩ := row_open h (by simp)
      simp only [Value.slice.injEq] at e0
      obtain ⟨ea, _, ec⟩ := e0
      have eW : withM (D ++ [y]) x = D ++ [x] := by unfold withM; rw [if_pos hle, List.dropLast_concat]
      rw [eW]
      have hD : D.length ≤ c0 := by simp at hnc; omega
      have hrow : ∀ V : World, V.heap[g0]? = some (.cells cur 90 (0, 0)) → RowV V (.slice (some ⟨g0, 0, none⟩) D.length c0) D := fun V hV => by
        refine row_mk hV hD hcm hcs ?_
        have e1 : cV D = (cV (D ++ [y])).take (D.length * 3) := by rw [cV_take, List.take_left]
        rw [e1, ← hx0, List.take_take, Nat.min_eq_left (by simp; omega)]
      have HR2 : Hid (∀ V, Below W.heap.size W V → V.cell? ⟨w.heap.size, 0, none⟩ = some (.int .i64 x.v.cm) ∧ V.cell? ⟨w.heap.size, 1, none⟩ = some (.slice x.r.a x.r.n x.r.c) ∧ V.cell? ⟨w.heap.size, 2, none⟩ = some (.bool x.v.gn) ∧ (V.alloc (.cells (vCells x).toArray 90)).ownsRow 0 90 3 (.slice (some ⟨g0, 0, none⟩) D.length c0) D.length (cV D) ∧ w.grownBy (V.alloc (.cells (vCells x).toArray 90)) (some g0) ∧ w.heap.size ≤ V.heap.size) := fun V hV => by
        obtain ⟨r1, r2, r3, _, r5, r6⟩ := HR.out V hV
        rw [ea] at r5
        have hb : Below w.heap.size w (V.alloc (.cells (vCells x).toArray 90)) := by
          have := below_step (by rw [hW]; exact below_alloc _ _ : Below w.heap.size w W) hV
          exact below_step this (below_alloc V _)
        exact ⟨r1, r2, r3, hrow _ ((hb.block g0 (blk_lt hg0)).trans hg0), r5, r6⟩
      have HLe : Hid (lastC (pvs (D ++ [y])) = x.v.cm) := hle
      rw [hle] at HL
      have hd1 : D.length ≤ 999999 := by simp at hl; omega
      have hw := wraps_i64 (D.length : Int) (by omega) (by omega)
      rw [← ec] at hD HR2
      have hdc : (D.length : Int) ≤ v.c := by omega
      have HT : Hid (∀ V g cap w1, Below W.heap.size W V → w1.ownsRow 0 90 3 (.slice (some ⟨g, 0, none⟩) (D.length + 1) cap) (D.length + 1) (cV D ++ vCells x) → (V.alloc (.cells (vCells x).toArray 90)).grownBy w1 (some g0) → (some g0 = some g ∨ g = (V.alloc (.cells (vCells x).toArray 90)).heap.size) → WithTo w v (D ++ [x]) (.returned (.slice (some ⟨g, 0, none⟩) (D.length + 1) cap)) w1) := fun V g cap w1 hV h1 h2 h3 => by
        obtain ⟨_, _, _, _, r5, r6⟩ := HR2.out V hV
        have e3 : (Value.slice v.a v.n v.c).ownBlock = some g ∨ w.heap.size ≤ g := by
          rw [ea]
          rcases h3 with e | e
          · exact .inl e
          · rw [e]; right; simp [go_sem]; omega
        have e4 : w.grownBy w1 (Value.slice v.a v.n v.c).ownBlock := by rw [ea]; exact grown_trans r5 h2
        refine ⟨g, cap, by simp, ?_, e4, e3⟩
        unfold RowV
        rw [cV_append, List.length_append]
        simpa [cV] using h1
      rw [ea, hnd] at HL ⊢
      clear HR hn ea ec hx0 hg0 hnc hcm hcs hrow eW hle hnd hl
      generalize v.c = vc at *
      generalize D.length = d at *
      have heq : (x.v.cm == x.v.cm) = true := by simp
      go_enter Tryz.func37, Tryz.ntmps37
      go_wp2_with fail
      rw [← hW]
      clear hW
      refine wp_region_noPanic ?_
      go_region_held (fun V => Below W.heap.size W V ∧ V.cell? ⟨w.heap.size, 0, none⟩ = some (.int .i64 x.v.cm))
        (first | (exact HK.out _ (below_drew _)) | (exact HK.out _ (below_step (by assumption : Below W.heap.size W _ ∧ _).1 (by assumption))) | assumption)
        (first
          | (go_at_call 30; refine (HL.out _ (by assumption : Below W.heap.size W _ ∧ _).1).mono ?_; rintro e w' ⟨rfl, rfl⟩)
          | fail)
      refine NoPanic.normal ?_
      obtain ⟨r1, r2, r3, HRow, _, _⟩ := HR2.out W.drew (below_drew W)
      have HRw := Lib.hid HRow
      have HTW := Lib.hid (HT.out W.drew · · · (below_drew W))
      have HNW := Lib.hid (HN.out W.drew)
      have hvc : vCells x = [.int .i64 x.v.cm, .slice x.r.a x.r.n x.r.c, .bool x.v.gn] := rfl
      clear HRow HT HR2 HN HL HK HLe HZ
      go_wp2_with (first
        | (at_builtin; refine wpList_append_lies _ rfl _ _ 52 rfl 0 90 i0 _ 3 40 Tryz.underlying52 hi0 hz0 hz1 hz2 rfl (by decide) _ d _ rfl HRw.out ⟨_, 0, none⟩ 1 1 (vCells x) rfl rfl HNW.out hone (by decide) (by unfold maxLen; omega) (by omega) (Nat.zero_le _) _ rfl ?_
           intro g cap w1 hown hgrow hat hlt
           have HZ := Lib.hid (HTW.out g cap w1 hown hgrow hat)
           clear hown hgrow hat hlt HTW HRw HNW)
        | fail)
      go_ret
      exact HZ.out
  · have eW : withM L x = L ++ [x] := by unfold withM; rw [if_neg hle]
    rw [eW]
    have HR2 : Hid (∀ V, Below W.heap.size W V → V.cell? ⟨w.heap.size, 0, none⟩ = some (.int .i64 x.v.cm) ∧ V.cell? ⟨w.heap.size, 1, none⟩ = some (.slice x.r.a x.r.n x.r.c) ∧ V.cell? ⟨w.heap.size, 2, none⟩ = some (.bool x.v.gn) ∧ (V.alloc (.cells (vCells x).toArray 90)).ownsRow 0 90 3 (.slice v.a v.n v.c) v.n (cV L) ∧ w.grownBy (V.alloc (.cells (vCells x).toArray 90)) (Value.slice v.a v.n v.c).ownBlock ∧ w.heap.size ≤ V.heap.size) := fun V hV => by
      have := HR.out V hV
      unfold RowV at this
      rw [← hn] at this
      exact this
    have HT : Hid (∀ V g cap w1, Below W.heap.size W V → w1.ownsRow 0 90 3 (.slice (some ⟨g, 0, none⟩) (v.n + 1) cap) (v.n + 1) (cV L ++ vCells x) → (V.alloc (.cells (vCells x).toArray 90)).grownBy w1 (Value.slice v.a v.n v.c).ownBlock → ((Value.slice v.a v.n v.c).ownBlock = some g ∨ g = (V.alloc (.cells (vCells x).toArray 90)).heap.size) → WithTo w v (L ++ [x]) (.returned (.slice (some ⟨g, 0, none⟩) (v.n + 1) cap)) w1) := fun V g cap w1 hV h1 h2 h3 => by
      obtain ⟨_, _, _, _, r5, r6⟩ := HR2.out V hV
      have e3 : (Value.slice v.a v.n v.c).ownBlock = some g ∨ w.heap.size ≤ g := by
        rcases h3 with e | e
        · exact .inl e
        · rw [e]; right; simp [go_sem]; omega
      refine ⟨g, cap, by simp [hn], ?_, grown_trans r5 h2, e3⟩
      unfold RowV
      rw [cV_append, List.length_append]
      simpa [cV, hn] using h1
    have hnl : v.n ≤ 1000000 := by omega
    have hne : (lastC (pvs L) == x.v.cm) = false := beq_false_of_ne hle
    clear HR hn eW hle hl
    generalize lastC (pvs L) = lc at *
    generalize v.n = n at *
    generalize v.c = vc at *
    generalize v.a = va at *
    go_enter Tryz.func37, Tryz.ntmps37
    go_wp2_with fail
    rw [← hW]
    clear hW
    refine wp_region_noPanic ?_
    go_region_held (fun V => Below W.heap.size W V ∧ V.cell? ⟨w.heap.size, 0, none⟩ = some (.int .i64 x.v.cm))
      (first | (exact HK.out _ (below_drew _)) | (exact HK.out _ (below_step (by assumption : Below W.heap.size W _ ∧ _).1 (by assumption))) | assumption)
      (first
        | (go_at_call 30; refine (HL.out _ (by assumption : Below W.heap.size W _ ∧ _).1).mono ?_; rintro e w' ⟨rfl, rfl⟩)
        | fail)
    refine NoPanic.normal ?_
    obtain ⟨r1, r2, r3, HRow, _, _⟩ := HR2.out W.drew (below_drew W)
    have HRw := Lib.hid HRow
    have HTW := Lib.hid (HT.out W.drew · · · (below_drew W))
    have HNW := Lib.hid (HN.out W.drew)
    have hvc : vCells x = [.int .i64 x.v.cm, .slice x.r.a x.r.n x.r.c, .bool x.v.gn] := rfl
    clear HRow HT HR2 HN HL HK HZ
    go_wp2_with (first
      | (at_builtin; refine wpList_append_lies _ rfl _ _ 52 rfl 0 90 i0 _ 3 40 Tryz.underlying52 hi0 hz0 hz1 hz2 rfl (by decide) _ n _ rfl HRw.out ⟨_, 0, none⟩ 1 1 (vCells x) rfl rfl HNW.out hone (by decide) (by unfold maxLen; omega) (by omega) (Nat.zero_le _) _ rfl ?_
         intro g cap w1 hown hgrow hat hlt
         have HZ := Lib.hid (HTW.out g cap w1 hown hgrow hat)
         clear hown hgrow hat hlt HTW HRw HNW)
      | fail)
    go_ret
    exact HZ.out
end Go.Proofs.YtagamkahfiackaaGreatDoor
