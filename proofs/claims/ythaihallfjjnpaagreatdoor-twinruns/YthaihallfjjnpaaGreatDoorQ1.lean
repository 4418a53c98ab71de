/- The document's Room, Check, half. -/
import Derived.Test.YthaihallfjjnpaaGreatDoorRT
import Derived.Test.YthaihallfjjnpaaGreatDoorTLd
namespace Go.Proofs.YthaihallfjjnpaaGreatDoor
open Go.RowKit Go.Sort Go.Maps

set_option maxHeartbeats 1000000 in
theorem rroom_ (a : Ar) (w : World) (hr : inI a.s) :
    Calls Tryz.prog 13 #[arV a] w fun e w' => e = .returned (.int .i64 (roomA a)) ∧ Below w.heap.size w w' := by
  obtain ⟨g, f, s⟩ := a
  unfold arV
  obtain ⟨r1, r2⟩ := hr
  simp only at r1 r2 ⊢
  by_cases h1 : s < 2
  · have e : roomA ⟨g, f, s⟩ = 0 := if_pos (.inl h1)
    rw [e]
    clear e
    go_enter Tryz.func13, Tryz.ntmps13
    go_wp2_with fail
    go_ret
    exact ⟨rfl, (Below.refl _ _).alloc (Nat.le_refl _) _⟩
  · by_cases h2 : 16384 < s
    · have e : roomA ⟨g, f, s⟩ = 0 := if_pos (.inr h2)
      rw [e]
      clear e
      go_enter Tryz.func13, Tryz.ntmps13
      go_wp2_with fail
      go_ret
      exact ⟨rfl, (Below.refl _ _).alloc (Nat.le_refl _) _⟩
    · have e : roomA ⟨g, f, s⟩ = max 0 (s / 2 * 64 - 24) := if_neg (by show ¬ (s < 2 ∨ 16384 < s); omega)
      rw [e]
      clear e
      have e1 : s.tdiv 2 = s / 2 := Int.tdiv_eq_ediv_of_nonneg (by omega)
      have hs0 : 1 ≤ s / 2 ∧ s / 2 ≤ 8192 := by omega
      generalize hq : s / 2 = q at *
      have w1 := wraps_i64 (q * 64) (by omega) (by omega)
      have w2 := wraps_i64 (q * 64 - 24) (by omega) (by omega)
      have w3 := wraps_i64 q (by omega) (by omega)
      clear hq
      go_enter Tryz.func13, Tryz.ntmps13
      go_wp2_with fail
      go_ret
      refine ⟨ret_int ?_, (Below.refl _ _).alloc (Nat.le_refl _) _⟩
      omega
set_option maxRecDepth 100000 in
set_option maxHeartbeats 2000000 in
theorem rcheck_ (x : RD) (al : Option Addr) (cl : Nat) (d : Dev) (a : Ar) (w : World) (ht : Tie d x) (hl : 1 ≤ d.r ∧ d.r ≤ 16 ∧ 1 ≤ d.s ∧ d.s ≤ 16384) (hr : inR a) :
    Calls Tryz.prog 26 #[rdV x al cl, arV a] w fun e w' => e = .returned (.int .i64 (if inA d a then 0 else 1)) ∧ Below w.heap.size w w' := by
  have hxr := ht.r
  have hxs := ht.s
  unfold rdV rdC arV inA
  obtain ⟨g, f, s⟩ := a
  obtain ⟨⟨r1, r2⟩, ⟨r3, r4⟩, r5, r6⟩ := hr
  simp only at *
  rw [hxr, hxs]
  generalize d.r = dr at *
  generalize d.s = ds at *
  generalize x.l.length = L at *
  generalize x.crashed = xc at *
  generalize x.armed = xa at *
  generalize x.left = xf at *
  obtain ⟨l1, l2, l3, l4⟩ := hl
  have hb2 : ∀ o o', Below w.heap.size w ((w.alloc o).alloc o') := fun o o' => below_two w o o'
  obtain ⟨R, hR⟩ : ∃ R : Int, (if 0 ≤ g ∧ g < dr ∧ 0 ≤ f ∧ 2 ≤ s ∧ s ≤ ds ∧ f ≤ ds - s then 0 else 1) = R := ⟨_, rfl⟩
  rw [hR]
  have HR := Lib.hid hR
  clear hR
  clear ht hxr hxs
  by_cases c1 : g < 0
  · go_enter Tryz.func26, Tryz.ntmps26
    go_wp2_with fail
    go_ret
    exact ⟨ret_int (by rw [← HR.out, if_neg (by omega)]), hb2 _ _⟩
  · by_cases c2 : g ≥ dr
    · go_enter Tryz.func26, Tryz.ntmps26
      go_wp2_with fail
      go_ret
      exact ⟨ret_int (by rw [← HR.out, if_neg (by omega)]), hb2 _ _⟩
    · by_cases c3 : f < 0
      · go_enter Tryz.func26, Tryz.ntmps26
        go_wp2_with fail
        go_ret
        exact ⟨ret_int (by rw [← HR.out, if_neg (by omega)]), hb2 _ _⟩
      · by_cases c4 : s < 2
        · go_enter Tryz.func26, Tryz.ntmps26
          go_wp2_with fail
          go_ret
          exact ⟨ret_int (by rw [← HR.out, if_neg (by omega)]), hb2 _ _⟩
        · by_cases c5 : s > ds
          · go_enter Tryz.func26, Tryz.ntmps26
            go_wp2_with fail
            go_ret
            exact ⟨ret_int (by rw [← HR.out, if_neg (by omega)]), hb2 _ _⟩
          · have w1 := wraps_i64 (ds - s) (by omega) (by omega)
            by_cases c6 : f > ds - s
            · go_enter Tryz.func26, Tryz.ntmps26
              go_wp2_with fail
              go_ret
              exact ⟨ret_int (by rw [← HR.out, if_neg (by omega)]), hb2 _ _⟩
            · have b6 : decide (f > ds - s) = false := decide_eq_false c6
              go_enter Tryz.func26, Tryz.ntmps26
              go_wp2_with fail
              go_ret
              exact ⟨ret_int (by rw [← HR.out, if_pos (by omega)]), hb2 _ _⟩
theorem rdV_load {w : World} {b : Nat} {x : RD} {al : Option Addr} {cl : Nat} (h : w.heap[b]? = some (.cells (rdC x al x.l.length cl) 32 (0, 0))) : (Instr.loadAt 32 (.pointer (some ⟨b, 0, none⟩))).run Tryz.prog w = .ok (rdV x al cl) w := load_rd h rfl
/-- An area of the document's in a block of its own. -/
def ArAtR (w : World) (b : Nat) (a : Ar) : Prop := w.heap[b]? = some (.cells #[.int .i64 a.g, .int .i64 a.f, .int .i64 a.s] 23 (0, 0))
theorem ArAtR.cells {w : World} {b : Nat} {a : Ar} (h : ArAtR w b a) : w.cell? ⟨b, 0, none⟩ = some (.int .i64 a.g) ∧ w.cell? ⟨b, 1, none⟩ = some (.int .i64 a.f) ∧ w.cell? ⟨b, 2, none⟩ = some (.int .i64 a.s) := ⟨cell_of h rfl, cell_of h rfl, cell_of h rfl⟩
theorem ArAtR.on {w w' : World} {b : Nat} {a : Ar} (h : ArAtR w b a) (hb : Below w.heap.size w w') : ArAtR w' b a := (hb.block b (blk_lt h)).trans h
/-- The document's device and area in blocks of their own. -/
def rdW (w : World) (x : RD) (al : Option Addr) (cl : Nat) (a : Ar) : World := (w.alloc (.cells (rdC x al x.l.length cl) 32)).alloc (.cells #[.int .i64 a.g, .int .i64 a.f, .int .i64 a.s] 23)
theorem rdW_at (w : World) (x : RD) (al : Option Addr) (cl : Nat) (a : Ar) : (rdW w x al cl a).heap[w.heap.size]? = some (.cells (rdC x al x.l.length cl) 32 (0, 0)) ∧ ArAtR (rdW w x al cl a) (w.heap.size + 1) a ∧ Below w.heap.size w (rdW w x al cl a) := ⟨(heap_two w _ _).2, (heap_two w _ _).1, below_two w _ _⟩
set_option maxRecDepth 100000 in
set_option maxHeartbeats 2000000 in
theorem rhalf_ {w : World} (x : RD) (al : Option Addr) (cl : Nat) (d : Dev) (a : Ar) (h : Nat) (hh : h < 2) (hLs : LstS w al cl x.l) (ht : Tie d x) (hok : okD d) (hxl : x.l.length ≤ 1000) (hl : 1 ≤ d.r ∧ d.r ≤ 16 ∧ 1 ≤ d.s ∧ d.s ≤ 16384) (hin : inA d a) :
    Calls Tryz.prog 27 #[rdV x al cl, arV a, .int .i64 (h : Int)] w fun e w' => e = .returned (.tuple #[.string (if d.crashed = true then bs [] else bs (halfA d a h)), .int .i64 (if d.crashed = true then 60 else 0)]) ∧ Below w.heap.size w w' := by
  obtain ⟨x1, x2, x3⟩ := rdW_at w x al cl a
  obtain ⟨hb0, hsec⟩ := inA_half hin h hh
  obtain ⟨i1, i2, i3, i4, i5, i6⟩ := hin
  obtain ⟨q, hq⟩ : ∃ q : Nat, (q : Int) = a.s / 2 := ⟨(a.s / 2).toNat, by omega⟩
  have hqn : (a.s / 2).toNat = q := by omega
  rw [hqn] at hsec
  have hrd : ∀ i : Nat, i < q → rErr d (a.g, begA a h + i) = if d.crashed = true then 60 else 0 := fun i hi => by unfold rErr; rw [if_neg (fun e => e (hsec i hi))]
  have HRd : Hid (∀ V (i : Nat), i < q → Below w.heap.size w V → Calls Tryz.prog 52 #[rdV x al cl, .int .i64 a.g, .int .i64 (begA a h + i)] V fun e w' => e = .returned (.tuple #[.string (if d.crashed = true then bs [] else bs (readD d (a.g, begA a h + i))), .int .i64 (if d.crashed = true then 60 else 0)]) ∧ Below V.heap.size V w') := fun V i hi hV =>
    (rreadT x d (a.g, begA a h + i) (hLs.on hV) ht hxl).mono fun e w' ⟨h1, h2⟩ => ⟨by
      rw [h1, hrd i hi]
      by_cases hc : d.crashed = true
      · simp [hc]
      · simp [hc], h2⟩
  have hhalf : halfA d a h = secsB d a.g (begA a h) q := by unfold halfA; rw [hqn]
  have hbeg : begA a h = a.f + (h : Int) * (a.s / 2) := rfl
  have hm : (h : Int) * (a.s / 2) = 0 ∨ (h : Int) * (a.s / 2) = a.s / 2 := by
    have : h = 0 ∨ h = 1 := by omega
    rcases this with rfl | rfl
    · left; simp
    · right; simp
  have e1 : a.s.tdiv 2 = a.s / 2 := Int.tdiv_eq_ediv_of_nonneg (by omega)
  have HLen : Hid (∀ i, (secsB d a.g (begA a h) i).length = 64 * i) := secsB_len hok a.g (begA a h)
  have HLen2 : Hid (∀ k, (readD d k).length = 64) := fun k => (okC_read hok k).1
  have HX := Lib.hid (And.intro x1 (And.intro x2 x3))
  have wq := wraps_i64 (a.s / 2) (by omega) (by omega)
  have wm : IntKind.i64.wrap ((h : Int) * (a.s / 2)) = (h : Int) * (a.s / 2) := by rcases hm with e | e <;> rw [e] <;> exact wraps_i64 _ (by omega) (by omega)
  have wb := wraps_i64 (a.f + (h : Int) * (a.s / 2)) (by omega) (by omega)
  have HQ := Lib.hid (And.intro hq (And.intro hhalf (And.intro hbeg hb0)))
  rw [hhalf]
  unfold rdW at HX
  have hrdV : rdV x al cl = .agg #[.int .i64 x.r, .int .i64 x.s, .slice al x.l.length cl, .bool x.crashed, .bool x.armed, .int .i64 x.left] := rfl
  have hrdC : rdC x al x.l.length cl = #[.int .i64 x.r, .int .i64 x.s, .slice al x.l.length cl, .bool x.crashed, .bool x.armed, .int .i64 x.left] := rfl
  rw [hrdV] at HRd ⊢
  rw [hrdC] at HX
  have hin16 : begA a h ≤ 16384 := by
    have := (hsec 0 (by omega)).2.2.2
    have h4 : begA a h + ((0 : Nat) : Int) < d.s := this
    omega
  clear x1 x2 x3 hrd hLs ht hsec hrdV hrdC hhalf
  generalize x.l.length = L at *
  generalize x.r = xr at *
  generalize x.s = xs' at *
  generalize x.crashed = xc at *
  generalize x.armed = xa at *
  generalize x.left = xf at *
  obtain ⟨g, f, s⟩ := a
  unfold arV
  simp only at *
  generalize begA ⟨g, f, s⟩ h = B at *
  rw [← hbeg] at wb
  have hbeg' : f + (h : Int) * (s / 2) = B := hbeg.symm
  clear hbeg
  generalize hV : (w.alloc (.cells #[.int .i64 xr, .int .i64 xs', .slice al L cl, .bool xc, .bool xa, .int .i64 xf] 32)).alloc (.cells #[.int .i64 g, .int .i64 f, .int .i64 s] 23) = V at *
  have HV := Lib.hid hV
  clear hV
  obtain ⟨SV, hSV⟩ : ∃ SV, (if d.crashed = true then bs [] else bs (secsB d g B q)) = SV := ⟨_, rfl⟩
  obtain ⟨EV, hEV⟩ : ∃ EV : Int, (if d.crashed = true then 60 else 0) = EV := ⟨_, rfl⟩
  rw [hSV, hEV]
  have HSE := Lib.hid (And.intro hSV hEV)
  clear hSV hEV
  go_enter Tryz.func27, Tryz.ntmps27
  go_wp2_with fail
  rw [HV.out]
  go_loopw [8, 9] (fun sv iv wr => ∃ i : Nat, sv = .string (bs (secsB d g B i)) ∧ iv = .int .i64 i ∧ i ≤ q ∧ (0 < i → d.crashed = false) ∧ Hid (Below V.heap.size V wr)) (fun _ iv _ => q - (intOf iv).toNat)
  case atStart => exact ⟨0, rfl, rfl, by omega, fun e => by omega, Below.refl _ _⟩
  case round =>
    obtain ⟨i, rfl, rfl, hiq, hcr, HB⟩ := hrel
    obtain ⟨z0, z1, z2⟩ := (HX.out.2.1.on HB.out).cells
    have HLd := Lib.hid (load_rd ((HB.out.block _ (blk_lt HX.out.1)).trans HX.out.1) rfl)
    simp only at z0 z1 z2
    have hqq : (q : Int) = s / 2 := HQ.out.1
    by_cases hlt : i < q
    · have hlt2 : (i : Int) < s / 2 := by omega
      have wi := wraps_i64 (B + i) (by have := HQ.out.2.2.2; omega) (by omega)
      by_cases hc : d.crashed = true
      · have HC := Lib.hid (HRd.out _ i hlt (below_step HX.out.2.2 HB.out))
        simp only [hc, if_true] at HC
        have hs0 : SV = bs [] ∧ EV = 60 := ⟨by rw [← HSE.out.1, if_pos hc], by rw [← HSE.out.2, if_pos hc]⟩
        obtain ⟨rfl, rfl⟩ := hs0
        go_wp2_with (first
          | (refine wpList_load_at rfl 32 _ rfl _ _ rfl HLd.out ?_)
          | (go_at_call 52; refine HC.out.mono ?_; rintro e w2 ⟨rfl, hb2⟩; have HB2 := Lib.hid (below_step (below_step HX.out.2.2 HB.out) hb2); clear hb2)
          | fail)
        go_ret2
        exact ⟨rfl, HB2.out⟩
      · have hcf : d.crashed = false := by simpa using hc
        have HC := Lib.hid (HRd.out _ i hlt (below_step HX.out.2.2 HB.out))
        simp only [hcf, Bool.false_eq_true, if_false] at HC
        have hsi : (bs (secsB d g B i)).size + (bs (readD d (g, B + i))).size ≤ 1048576 := by rw [bs_size, bs_size, HLen.out, HLen2.out]; omega
        have HA := Lib.hid (bs_append (secsB d g B i) (readD d (g, B + i)))
        have HS := Lib.hid (secsB_snoc d g B i)
        generalize readD d (g, B + i) = ct at *
        generalize secsB d g B i = si at *
        go_wp2_with (first
          | (refine wpList_load_at rfl 32 _ rfl _ _ rfl HLd.out ?_)
          | (go_at_call 52; refine HC.out.mono ?_; rintro e w2 ⟨rfl, hb2⟩; have HB2 := Lib.hid (below_step HB.out hb2); clear hb2)
          | fail)
        exact ⟨⟨i + 1, by rw [HS.out, ← HA.out], by go_num, by omega, fun _ => hcf, HB2⟩, by simp [intOf]; omega⟩
    · have hlt2 : ¬ (i : Int) < s / 2 := by omega
      obtain rfl : i = q := by omega
      have hcf : d.crashed = false := hcr (by omega)
      have hs0 : SV = bs (secsB d g B i) ∧ EV = 0 := ⟨by rw [← HSE.out.1, if_neg (by simp [hcf])], by rw [← HSE.out.2, if_neg (by simp [hcf])]⟩
      obtain ⟨rfl, rfl⟩ := hs0
      go_wp2_with fail
      go_ret2
      exact ⟨rfl, below_step HX.out.2.2 HB.out⟩
end Go.Proofs.YthaihallfjjnpaaGreatDoor
