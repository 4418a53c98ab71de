/- The walk of the law DiskTorn. -/
import Derived.Test.YtdcanhcejhaccaaDSure
namespace Go.Proofs.Ytdcanhcejhaccaa
open Go.RowKit Go.Sort Go.Maps

/-- The devices of the law, one behind the other. -/
def dt1 (x : List Nat) : Dev := writeD (newD 1 1) (0, 0) x
def dt2 (x : List Nat) : Dev := syncD (dt1 x) 0
def dt3 (x y : List Nat) : Dev := writeD (dt2 x) (0, 0) y
def dt4 (x y : List Nat) (ch : Int) : Dev := restartD (dt3 x y) [ch]
theorem dt1_eq {x : List Nat} (h : x.length ≤ 64) : dt1 x = { newD 1 1 with pend := [((0, 0), fillC x)] } := by
  unfold dt1 writeD
  rw [if_neg (by simp [newD]; omega)]
  simp [doneD, newD, putP]
theorem dt2_eq {x : List Nat} (h : x.length ≤ 64) : (dt2 x).r = 1 ∧ (dt2 x).s = 1 ∧ (dt2 x).pend = [] ∧ (dt2 x).armed = false ∧ (dt2 x).left = 0 ∧ (dt2 x).crashed = false ∧ (dt2 x).safe (0, 0) = fillC x := by
  unfold dt2 syncD
  rw [dt1_eq h, if_pos (by simp [sErr, newD])]
  simp [syncedD, newD, getP]
theorem dt3_eq {x y : List Nat} (h : x.length ≤ 64) (hy : y.length ≤ 64) : (dt3 x y).r = 1 ∧ (dt3 x y).s = 1 ∧ (dt3 x y).pend = [((0, 0), fillC y)] ∧ (dt3 x y).crashed = false ∧ (dt3 x y).safe (0, 0) = fillC x := by
  obtain ⟨h1, h2, h3, h4, h5, h6, h7⟩ := dt2_eq h
  unfold dt3 writeD
  rw [if_neg (by simp [hasD, h1, h2, h6]; omega)]
  simp [doneD, h1, h2, h3, h4, h6, h7, putP]
theorem dt1_err {x : List Nat} (h : x.length ≤ 64) : wErr (newD 1 1) (0, 0) x.length = 0 := by
  unfold wErr
  simp [newD, hasD]; omega
theorem dt2_err {x : List Nat} (h : x.length ≤ 64) : sErr (dt1 x) 0 = 0 := by rw [dt1_eq h]; simp [sErr, newD]
theorem dt2_read {x : List Nat} (h : x.length ≤ 64) : rErr (dt2 x) (0, 0) = 0 ∧ readD (dt2 x) (0, 0) = fillC x := by
  obtain ⟨h1, h2, h3, h4, h5, h6, h7⟩ := dt2_eq h
  simp [rErr, readD, hasD, h1, h2, h3, h6, h7, getP]
theorem dt3_err {x y : List Nat} (h : x.length ≤ 64) (hy : y.length ≤ 64) : wErr (dt2 x) (0, 0) y.length = 0 := by
  obtain ⟨h1, h2, h3, h4, h5, h6, h7⟩ := dt2_eq h
  unfold wErr
  simp [hasD, h1, h2, h4, h6]; omega
theorem dt3_read {x y : List Nat} (h : x.length ≤ 64) (hy : y.length ≤ 64) : rErr (dt3 x y) (0, 0) = 0 ∧ readD (dt3 x y) (0, 0) = fillC y := by
  obtain ⟨h1, h2, h3, h4, h5⟩ := dt3_eq h hy
  simp [rErr, readD, hasD, h1, h2, h3, h4, getP]
theorem dt4_read {x y : List Nat} (h : x.length ≤ 64) (hy : y.length ≤ 64) (ch : Int) : rErr (dt4 x y ch) (0, 0) = 0 ∧ readD (dt4 x y ch) (0, 0) = chosenC ch (fillC y) (fillC x) := by
  obtain ⟨h1, h2, h3, h4, h5⟩ := dt3_eq h hy
  unfold dt4
  simp [rErr, readD, restartD, hasD, h1, h2, h3, h5, getP, goR, updC]
theorem got_of {w : World} {d : Dev} {k : Pl} {c : Ct} {e : Ending} {w' : World} (h : ReadsTo w d k e w') (hr : rErr d k = 0 ∧ readD d k = c) : GotC w c e w' := by
  rcases h with ⟨_, h⟩ | ⟨h, _⟩
  · rw [hr.2] at h; exact h
  · exact absurd hr.1 h
theorem take_len (xs : List Nat) : (xs.take 64).length ≤ 64 := by rw [List.length_take]; omega
theorem take_lt {xs : List Nat} (h : ∀ x ∈ xs, x < 256) : ∀ x ∈ xs.take 64, x < 256 := fun x hx => h x (List.mem_of_mem_take hx)
/-- bytes written, through cut, to the one sector. -/
theorem cut_made {w : World} {a : Option Addr} {xs : List Nat} {n c : Nat} (h : BytesIn w a xs) (hn : xs.length = n) (hc : a = none → c = 0) (hnc : n ≤ c) : Calls Try.prog 6 #[.slice a n c] w fun e w' => ∃ a' c', e = .returned (.slice a' (xs.take 64).length c') ∧ BytesIn w' a' (xs.take 64) ∧ Below w.heap.size w w' :=
  (cut_ a xs n c w h hn hc hnc).mono fun _ _ ⟨a', c', h1, _, h3, _, h5⟩ => ⟨a', c', h1, h3, h5⟩
set_option maxRecDepth 100000 in
set_option maxHeartbeats 4000000 in
theorem torn_ (a1 a2 : Option Addr) (xs ys : List Nat) (n1 c1 n2 c2 : Nat) (ch : Int) (w : World) (h1 : BytesIn w a1 xs) (h2 : BytesIn w a2 ys) (hn1 : xs.length = n1) (hn2 : ys.length = n2) (hc1 : a1 = none → c1 = 0) (hc2 : a2 = none → c2 = 0) (hl1 : n1 ≤ c1) (hl2 : n2 ≤ c2) (hx : ∀ x ∈ xs, x < 256) (hy : ∀ x ∈ ys, x < 256) :
    Calls Try.prog 3 #[.slice a1 n1 c1, .slice a2 n2 c2, .int .i64 ch] w fun e w' => e = .returned (.bool true) ∧ Below w.heap.size w w' := by
  have HX : Hid (∀ W, Below w.heap.size w W → Calls Try.prog 6 #[.slice a1 n1 c1] W fun e w' => ∃ a' c', e = .returned (.slice a' (xs.take 64).length c') ∧ BytesIn w' a' (xs.take 64) ∧ Below W.heap.size W w') := fun W hW => cut_made (h1.on hW) hn1 hc1 hl1
  have HY : Hid (∀ W, Below w.heap.size w W → Calls Try.prog 6 #[.slice a2 n2 c2] W fun e w' => ∃ a' c', e = .returned (.slice a' (ys.take 64).length c') ∧ BytesIn w' a' (ys.take 64) ∧ Below W.heap.size W w') := fun W hW => cut_made (h2.on hW) hn2 hc2 hl2
  have HT := Lib.hid (And.intro (take_len xs) (And.intro (take_len ys) (And.intro (take_lt hx) (take_lt hy))))
  have HN := Lib.hid (new_ 1 1 w (by omega))
  clear h1 h2 hn1 hn2 hc1 hc2 hl1 hl2 hx hy
  generalize xs.take 64 = x at *
  generalize ys.take 64 = y at *
  go_enter Try.func3, Try.ntmps3
  go_wp2_with fail
  refine HN.out.mono ?_
  rintro e w1 ⟨rfl, hb1, hd1⟩
  have HB1 := Lib.hid hb1
  have HD1 := Lib.hid hd1
  clear hb1 hd1 HN
  unfold pt
  go_wp2_with fail
  refine (HX.out w1 HB1.out).mono ?_
  rintro e w2 ⟨a3, c3, rfl, hi2, hb2⟩
  have HB2 := Lib.hid (below_step HB1.out hb2)
  have HW : Hid (Calls Try.prog 5 #[.pointer (some ⟨w.heap.size + 2, 0, none⟩), .int .i64 0, .int .i64 0, .slice a3 x.length c3] w2 fun e w' => e = .returned .nilIface ∧ DevIn w' (w.heap.size + 2) w.heap.size (w.heap.size + 1) (dt1 x) 1 ∧ Fd (w.heap.size + 2) w.heap.size (w.heap.size + 1) w2 w') :=
    (write_ (HD1.out.on hb2) (0, 0) a3 x x.length c3 hi2 rfl HT.out.2.2.1 (by omega)).mono fun e w' ⟨h1, h2⟩ => ⟨h1.trans (by rw [dt1_err HT.out.1]; rfl), h2⟩
  clear hi2 hb2 HX HD1 HB1
  go_wp2_with fail
  refine HW.out.mono ?_
  rintro e w3 ⟨rfl, hd3, hf3⟩
  have HB3 := Lib.hid (below_step' HB2.out hf3)
  have HS : Hid (Calls Try.prog 7 #[.pointer (some ⟨w.heap.size + 2, 0, none⟩), .int .i64 0] w3 fun e w' => e = .returned .nilIface ∧ DevIn w' (w.heap.size + 2) w.heap.size (w.heap.size + 1) (dt2 x) 1 ∧ Fd (w.heap.size + 2) w.heap.size (w.heap.size + 1) w3 w') :=
    (sync_ hd3 0).mono fun e w' ⟨h1, h2⟩ => ⟨h1.trans (by rw [dt2_err HT.out.1]; rfl), h2⟩
  clear hd3 hf3 HW HB2
  go_wp2_with fail
  refine HS.out.mono ?_
  rintro e w4 ⟨rfl, hd4, hf4⟩
  have HB4 := Lib.hid (below_step' HB3.out hf4)
  have HD4 := Lib.hid hd4
  have HG : Hid (Calls Try.prog 8 #[.pointer (some ⟨w.heap.size + 2, 0, none⟩), .int .i64 0, .int .i64 0] w4 (GotC w4 (fillC x))) := (read_ hd4 (0, 0)).mono fun e w' h => got_of h (dt2_read HT.out.1)
  clear hd4 hf4 HS HB3
  go_wp2_with fail
  refine HG.out.mono ?_
  rintro e w5 ⟨g5, rfl, hg5, hh5, hb5⟩
  replace hg5 : w.heap.size + 2 < g5 := Nat.lt_of_lt_of_le HD4.out.lts.1 hg5
  have HB5 := Lib.hid (below_step HB4.out hb5)
  have HD5 := Lib.hid (HD4.out.on hb5)
  have HX5 := Lib.hid (And.intro hg5 hh5)
  clear hg5 hh5 hb5 HG HB4 HD4
  go_wp2_with fail
  refine (HY.out w5 HB5.out).mono ?_
  rintro e w6 ⟨a6, c6, rfl, hi6, hb6⟩
  have HB6 := Lib.hid (below_step HB5.out hb6)
  have HX6 : Hid (w.heap.size + 2 < g5 ∧ w6.heap[g5]? = some (.cells (vals (fillC x)).toArray 5 (0, 0))) := ⟨HX5.out.1, (hb6.block _ (blk_lt HX5.out.2)).trans HX5.out.2⟩
  have HW : Hid (Calls Try.prog 5 #[.pointer (some ⟨w.heap.size + 2, 0, none⟩), .int .i64 0, .int .i64 0, .slice a6 y.length c6] w6 fun e w' => e = .returned .nilIface ∧ DevIn w' (w.heap.size + 2) w.heap.size (w.heap.size + 1) (dt3 x y) 2 ∧ Fd (w.heap.size + 2) w.heap.size (w.heap.size + 1) w6 w') :=
    (write_ (HD5.out.on hb6) (0, 0) a6 y y.length c6 hi6 rfl HT.out.2.2.2 (by omega)).mono fun e w' ⟨h1, h2⟩ => ⟨h1.trans (by rw [dt3_err HT.out.1 HT.out.2.1]; rfl), h2⟩
  have HD6 := Lib.hid (HD5.out.on hb6)
  clear hi6 hb6 HY HD5 HB5 HX5
  go_wp2_with fail
  refine HW.out.mono ?_
  rintro e w7 ⟨rfl, hd7, hf7⟩
  have HB7 := Lib.hid (below_step' HB6.out hf7)
  have HD7 := Lib.hid hd7
  have HX7 : Hid (w.heap.size + 2 < g5 ∧ w7.heap[g5]? = some (.cells (vals (fillC x)).toArray 5 (0, 0))) := ⟨HX6.out.1, (hf7.block _ (blk_lt HX6.out.2) (by have := HX6.out.1; omega) (by have := HX6.out.1; omega) (by have := HX6.out.1; omega)).trans HX6.out.2⟩
  have HG : Hid (Calls Try.prog 8 #[.pointer (some ⟨w.heap.size + 2, 0, none⟩), .int .i64 0, .int .i64 0] w7 (GotC w7 (fillC y))) := (read_ hd7 (0, 0)).mono fun e w' h => got_of h (dt3_read HT.out.1 HT.out.2.1)
  clear hd7 hf7 HW HB6 HD6 HX6
  go_wp2_with fail
  refine HG.out.mono ?_
  rintro e w8 ⟨g8, rfl, hg8, hh8, hb8⟩
  replace hg8 : w.heap.size + 2 < g8 := Nat.lt_of_lt_of_le HD7.out.lts.1 hg8
  have HB8 := Lib.hid (below_step HB7.out hb8)
  have HD8 := Lib.hid (HD7.out.on hb8)
  have HX8 : Hid (w.heap.size + 2 < g5 ∧ w8.heap[g5]? = some (.cells (vals (fillC x)).toArray 5 (0, 0)) ∧ w.heap.size + 2 < g8 ∧ w8.heap[g8]? = some (.cells (vals (fillC y)).toArray 5 (0, 0))) := ⟨HX7.out.1, (hb8.block _ (blk_lt HX7.out.2)).trans HX7.out.2, hg8, hh8⟩
  have HR : Hid (Calls Try.prog 9 #[.pointer (some ⟨w.heap.size + 2, 0, none⟩), .slice (some ⟨w8.heap.size, 0, none⟩) 1 1] (w8.alloc (.cells #[.int .i64 ch] 3)) fun e w' => e = .returned (.tuple #[]) ∧ DevIn w' (w.heap.size + 2) w.heap.size (w.heap.size + 1) (dt4 x y ch) 2 ∧ Fd (w.heap.size + 2) w.heap.size (w.heap.size + 1) (w8.alloc (.cells #[.int .i64 ch] 3)) w') :=
    restart_ (HD8.out.on (below_alloc w8 _)) _ [ch] 1 1 rfl (ints_new w8 [ch] (0, 0)) (fun b o e => by simp only [Option.some.injEq, Addr.mk.injEq] at e; have := HD8.out.lts.1; omega) (by omega)
  have HB9 := Lib.hid (below_step HB8.out (below_alloc w8 (.cells #[.int .i64 ch] 3)))
  have HX9 : Hid (w.heap.size + 2 < g5 ∧ (w8.alloc (.cells #[.int .i64 ch] 3)).heap[g5]? = some (.cells (vals (fillC x)).toArray 5 (0, 0)) ∧ w.heap.size + 2 < g8 ∧ (w8.alloc (.cells #[.int .i64 ch] 3)).heap[g8]? = some (.cells (vals (fillC y)).toArray 5 (0, 0))) :=
    ⟨HX8.out.1, ((below_alloc w8 _).block _ (blk_lt HX8.out.2.1)).trans HX8.out.2.1, HX8.out.2.2.1, ((below_alloc w8 _).block _ (blk_lt HX8.out.2.2.2)).trans HX8.out.2.2.2⟩
  clear hg8 hh8 hb8 HG HB7 HD7 HX7 HD8 HB8 HX8
  go_wp2_with fail
  generalize w8.alloc (.cells #[.int .i64 ch] 3) = w9 at *
  refine HR.out.mono ?_
  rintro e w10 ⟨rfl, hd10, hf10⟩
  have HB10 := Lib.hid (below_step' HB9.out hf10)
  have HX10 : Hid (w10.heap[g5]? = some (.cells (vals (fillC x)).toArray 5 (0, 0)) ∧ w10.heap[g8]? = some (.cells (vals (fillC y)).toArray 5 (0, 0))) := by
    obtain ⟨q1, q2, q3, q4⟩ := HX9.out
    exact ⟨(hf10.block _ (blk_lt q2) (by omega) (by omega) (by omega)).trans q2, (hf10.block _ (blk_lt q4) (by omega) (by omega) (by omega)).trans q4⟩
  have HG : Hid (Calls Try.prog 8 #[.pointer (some ⟨w.heap.size + 2, 0, none⟩), .int .i64 0, .int .i64 0] w10 (GotC w10 (chosenC ch (fillC y) (fillC x)))) := (read_ hd10 (0, 0)).mono fun e w' h => got_of h (dt4_read HT.out.1 HT.out.2.1 ch)
  clear hd10 hf10 HR HB9 HX9
  go_wp2_with fail
  refine HG.out.mono ?_
  rintro e W ⟨g, rfl, hg, hh, hb⟩
  have HB := Lib.hid (below_step HB10.out hb)
  have lx : (fillC x).length = 64 := fill_len HT.out.1
  have ly : (fillC y).length = 64 := fill_len HT.out.2.1
  have bx := ct_bytes 5 ((hb.block _ (blk_lt HX10.out.1)).trans HX10.out.1)
  have bY := ct_bytes 5 ((hb.block _ (blk_lt HX10.out.2)).trans HX10.out.2)
  have bz := ct_bytes 5 hh
  clear hg hh hb HG HB10 HX10 HT
  generalize fillC x = X at *
  generalize fillC y = Y at *
  have HSU := Lib.hid (fun V => sure_ V)
  have CX : (convert 22 9 (.slice (some ⟨g5, 0, none⟩) 64 64)).run Try.prog W = .ok (.string (bs X)) W := conv_ W _ 64 64 X lx.symm bx
  have CY : (convert 22 9 (.slice (some ⟨g8, 0, none⟩) 64 64)).run Try.prog W = .ok (.string (bs Y)) W := conv_ W _ 64 64 Y ly.symm bY
  by_cases h1 : ch = 1
  · have k1 : (ch == 1) = true := by simpa using h1
    have hz : chosenC ch Y X = Y := by simp [chosenC, h1]
    rw [hz] at bz
    have CZ : (convert 22 9 (.slice (some ⟨g, 0, none⟩) 64 64)).run Try.prog W = .ok (.string (bs Y)) W := conv_ W _ 64 64 Y ly.symm bz
    generalize bs X = sX at *
    generalize bs Y = sY at *
    clear bx bY bz hz lx ly h1
    go_wp2_with fail
    refine (HSU.out W).mono ?_
    rintro e W2 ⟨rfl, hb2⟩
    have HE := Lib.hid (below_step HB.out hb2)
    clear hb2
    go_wp2_with fail
    go_ret
    exact ⟨rfl, HE.out⟩
  · have k1 : (ch == 1) = false := by simpa using h1
    by_cases h2 : ch = 2
    · have k2 : (ch == 2) = true := by simpa using h2
      have hz : chosenC ch Y X = tornC Y X := by simp [chosenC, h2]
      rw [hz] at bz
      have lz : (tornC Y X).length = 64 := by simp [tornC, lx, ly]
      have bY1 : BytesIn W (some ⟨g8, 0, none⟩) (Y.take 32) := bY.take 32
      have bX2 : BytesIn W (some ⟨g5, 32, none⟩) (X.drop 32) := by
        intro i hi
        rw [List.length_drop] at hi
        obtain ⟨b, o, e, hc⟩ := bx (32 + i) (by omega)
        simp only [Option.some.injEq, Addr.mk.injEq, and_true] at e
        obtain ⟨rfl, rfl⟩ := e
        refine ⟨g5, 32, rfl, ?_⟩
        rw [Nat.zero_add] at hc
        rw [hc]
        simp [List.getD_eq_getElem?_getD, List.getElem?_drop]
      have G1 : Hid (∀ V, Below W.heap.size W V → (convert 22 9 (.slice (some ⟨g8, 0, none⟩) 32 64)).run Try.prog V = .ok (.string (bs (Y.take 32))) V) := fun V hV => conv_ V _ 32 64 _ (by simp [ly]) (bY1.on hV)
      have G2 : Hid (∀ V, Below W.heap.size W V → (convert 22 9 (.slice (some ⟨g5, 32, none⟩) 32 32)).run Try.prog V = .ok (.string (bs (X.drop 32))) V) := fun V hV => conv_ V _ 32 32 _ (by simp [lx]) (bX2.on hV)
      have GZ : Hid (∀ V, Below W.heap.size W V → (convert 22 9 (.slice (some ⟨g, 0, none⟩) 64 64)).run Try.prog V = .ok (.string (bs (Y.take 32) ++ bs (X.drop 32))) V) := fun V hV => by rw [bs_append]; exact conv_ V _ 64 64 _ lz.symm (bz.on hV)
      have q1 : (bs (Y.take 32)).size = 32 := by rw [bs_size]; simp [ly]
      have q2 : (bs (X.drop 32)).size = 32 := by rw [bs_size]; simp [lx]
      generalize bs X = sX at *
      generalize bs (Y.take 32) = sY at *
      generalize bs (X.drop 32) = sZ at *
      clear bx bY bz hz lx ly h1 h2 CY bY1 bX2 lz
      go_wp2_with fail
      refine wp_region_noPanic ?_
      refine wp_region_held_drew (S := fun V => Below W.heap.size W V) (by kernel_rfl) (below_drew _) (fun hHeld => ?_)
      refine take_at 0 (.slice (some ⟨g8, 0, none⟩) 64 64) rfl (by kernel_rfl) (by kernel_rfl) (by kernel_rfl) (fun _ _ _ h => h) (Or.inl ⟨by rfl, ?_⟩) (by assumption) ?_
      · intro V hSV; go_simp
      simp only [Act.put, List.setIfInBounds_toArray, List.set_cons_zero, List.set_cons_succ]
      refine take_at 1 (.slice (some ⟨g8, 0, none⟩) 32 64) rfl (by kernel_rfl) (by kernel_rfl) (by kernel_rfl) (fun _ _ _ h => h) (Or.inl ⟨by rfl, ?_⟩) (by assumption) ?_
      · intro V hSV; go_simp
      simp only [Act.put, List.setIfInBounds_toArray, List.set_cons_zero, List.set_cons_succ]
      refine take_at 2 (.string sY) rfl (by kernel_rfl) (by kernel_rfl) (by kernel_rfl) (fun _ _ _ h => h) (Or.inl ⟨by rfl, ?_⟩) (by assumption) ?_
      · intro V hSV; have e0 := G1.out V hSV; go_simp
      simp only [Act.put, List.setIfInBounds_toArray, List.set_cons_zero, List.set_cons_succ]
      refine take_at 3 (.slice (some ⟨g5, 0, none⟩) 64 64) rfl (by kernel_rfl) (by kernel_rfl) (by kernel_rfl) (fun _ _ _ h => h) (Or.inl ⟨by rfl, ?_⟩) (by assumption) ?_
      · intro V hSV; go_simp
      simp only [Act.put, List.setIfInBounds_toArray, List.set_cons_zero, List.set_cons_succ]
      refine take_at 4 (.slice (some ⟨g5, 32, none⟩) 32 32) rfl (by kernel_rfl) (by kernel_rfl) (by kernel_rfl) (fun _ _ _ h => h) (Or.inl ⟨by rfl, ?_⟩) (by assumption) ?_
      · intro V hSV; go_simp
      simp only [Act.put, List.setIfInBounds_toArray, List.set_cons_zero, List.set_cons_succ]
      refine take_at 5 (.string sZ) rfl (by kernel_rfl) (by kernel_rfl) (by kernel_rfl) (fun _ _ _ h => h) (Or.inl ⟨by rfl, ?_⟩) (by assumption) ?_
      · intro V hSV; have e0 := G2.out V hSV; go_simp
      simp only [Act.put, List.setIfInBounds_toArray, List.set_cons_zero, List.set_cons_succ]
      refine take_at 6 (.string (sY ++ sZ)) rfl (by kernel_rfl) (by kernel_rfl) (by kernel_rfl) (fun _ _ _ h => h) (Or.inl ⟨by rfl, ?_⟩) (by assumption) ?_
      · intro V hSV; go_simp
      simp only [Act.put, List.setIfInBounds_toArray, List.set_cons_zero, List.set_cons_succ]
      refine take_at 7 (.string (sY ++ sZ)) rfl (by kernel_rfl) (by kernel_rfl) (by kernel_rfl) (fun _ _ _ h => h) (Or.inl ⟨by rfl, ?_⟩) (by assumption) ?_
      · intro V hSV; go_simp
      simp only [Act.put, List.setIfInBounds_toArray, List.set_cons_zero, List.set_cons_succ]
      refine wpAnyH_done (by kernel_rfl) ?_ _
      refine NoPanic.normal ?_
      have CZ := GZ.out W.drew hHeld
      have HB2 := Lib.hid (below_step HB.out hHeld)
      clear GZ G1 G2 hHeld HB CX
      generalize W.drew = W3 at *
      generalize sY ++ sZ = sW at *
      go_wp2_with fail
      refine (HSU.out W3).mono ?_
      rintro e W2 ⟨rfl, hb2⟩
      have HE := Lib.hid (below_step HB2.out hb2)
      clear hb2
      go_wp2_with fail
      go_ret
      exact ⟨rfl, HE.out⟩
    · have k2 : (ch == 2) = false := by simpa using h2
      have hz : chosenC ch Y X = X := by simp [chosenC, h1, h2]
      rw [hz] at bz
      have CZ : (convert 22 9 (.slice (some ⟨g, 0, none⟩) 64 64)).run Try.prog W = .ok (.string (bs X)) W := conv_ W _ 64 64 X lx.symm bz
      generalize bs X = sX at *
      generalize bs Y = sY at *
      clear bx bY bz hz lx ly h1 h2
      go_wp2_with fail
      refine (HSU.out W).mono ?_
      rintro e W2 ⟨rfl, hb2⟩
      have HE := Lib.hid (below_step HB.out hb2)
      clear hb2
      go_wp2_with fail
      go_ret
      exact ⟨rfl, HE.out⟩
end Go.Proofs.Ytdcanhcejhaccaa
