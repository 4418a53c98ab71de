/- The document's Changed, next. -/
import Derived.Test.YtagamkahfiackaaGreatDoorVnRGet
import Derived.Lib.QuietBelow
namespace Go.Proofs.YtagamkahfiackaaGreatDoor
open Go.RowKit Go.Sort

attribute [local go_sem] Oper.semAt_some
def chP (r : Rg) (t : Int) (x : RV) : Bool := hasR r x.k && decide (t < x.v.cm)
def stepK (o : Option ByteArray) (k : ByteArray) : Option ByteArray := match o with
  | none => some k
  | some b => if ltb k b = true then some k else some b
def nxP (r : Rg) (key : ByteArray) (first : Bool) (x : RV) : Bool := hasR r x.k && (first || ltb key x.k)
def foldK (L : List RV) : Option ByteArray := L.foldl (fun o x => stepK o x.k) none
def nxtR (r : Rg) (key : ByteArray) (first : Bool) (R : List RV) : Option ByteArray := foldK (R.filter (nxP r key first))
theorem foldK_snoc (L : List RV) (x : RV) : foldK (L ++ [x]) = stepK (foldK L) x.k := by simp [foldK]
theorem take_snoc {R : List RV} {i : Nat} {x : RV} (hx : R[i]? = some x) : R.take (i + 1) = R.take i ++ [x] := by
  obtain ⟨h1, h2⟩ := List.getElem?_eq_some_iff.1 hx
  rw [← h2, List.take_append_getElem]
theorem nxt_miss {r : Rg} {key : ByteArray} {first : Bool} {R : List RV} {i : Nat} {x : RV} (hx : R[i]? = some x) (h : nxP r key first x = false) : nxtR r key first (R.take (i + 1)) = nxtR r key first (R.take i) := by
  unfold nxtR
  rw [take_snoc hx, List.filter_append]
  simp [h]
theorem nxt_hit {r : Rg} {key : ByteArray} {first : Bool} {R : List RV} {i : Nat} {x : RV} (hx : R[i]? = some x) (h : nxP r key first x = true) : nxtR r key first (R.take (i + 1)) = stepK (nxtR r key first (R.take i)) x.k := by
  unfold nxtR
  rw [take_snoc hx, List.filter_append]
  simp [h, foldK_snoc]
set_option maxRecDepth 100000 in
set_option maxHeartbeats 4000000 in
theorem rchg_ {w : World} {B : Nat} {v : Value} {R : List RV} (hr : RowRV w B v R) (hl : R.length ≤ 1000) (r : Rg) (t : Int) :
    Calls Tryz.prog 13 #[v, rgV r, .int .i64 t] w fun e w' => e = .returned (.bool (R.any (chP r t))) ∧ Below w.heap.size w w' := by
  obtain ⟨a, c, rfl, hat⟩ := hr.items
  obtain ⟨W0, hW0⟩ : ∃ W0, W0 = w.alloc (.cells #[.string r.f, .string r.t, .bool r.hf, .bool r.ht, .bool r.pf, .bool r.pt] 24) := ⟨_, rfl⟩
  have HBW : Hid (Below w.heap.size w W0) := by show Below _ _ _; rw [hW0]; exact below_alloc w _
  have HR0 : Hid (∀ V, Below W0.heap.size W0 V → RgAt V w.heap.size r) := fun V hV => (by rw [hW0]; exact rgAt_new w r _ : RgAt W0 w.heap.size r).on hV (by rw [hW0]; simp [go_sem])
  have HAt := Lib.hid hat
  have HX : Hid (∀ i, i < R.length → ∃ x, R[i]? = some x) := fun i hi => ⟨_, List.getElem?_eq_getElem hi⟩
  have HEnd : Hid (R.take R.length = R) := List.take_length
  clear hr hat
  generalize hL : R.length = L at *
  clear hL
  unfold rgV
  go_enter Tryz.func13, Tryz.ntmps13
  go_upto_region 1 with fail
  rw [← hW0]
  clear hW0
  generalize hn : w.heap.size = n at *
  have HNn := Lib.hid hn
  clear hn
  go_wp2_with fail
  go_loopg [7] L (fun kx v7 wr => ∃ i : Nat, v7 = .int .i64 i ∧ i ≤ L ∧ L - i ≤ kx ∧ Hid ((R.take i).any (chP r t) = false) ∧ Hid (Below W0.heap.size W0 wr))
  case atStart => exact ⟨0, rfl, Nat.zero_le _, by omega, rfl, Below.refl _ _⟩
  case round =>
    obtain ⟨i, rfl, hi, hkx, HJ, HB⟩ := hrel
    by_cases hlt : i < L
    · obtain ⟨x, hx⟩ := HX.out i hlt
      obtain ⟨g, rfl, hc⟩ := HAt.out i x hx
      have HBw : Hid (Below w.heap.size w wr) := by show Below _ _ _; rw [HNn.out]; exact HBW.out.trans (HB.out.mono (by have := HBW.out.size; rw [HNn.out] at this; exact this))
      obtain ⟨d1, d2, _, _⟩ := hc wr HBw.out
      obtain ⟨e0, e1, e2, e3, e4, e5⟩ := HR0.out wr HB.out
      have s1 := cell_regrown d1
      have s2 := cell_regrown d2
      have r0 := cell_regrown e0
      have r1 := cell_regrown e1
      have r2 := cell_regrown e2
      have r3 := cell_regrown e3
      have r4 := cell_regrown e4
      have r5 := cell_regrown e5
      have hw1 := wraps_i64 ((i : Int) + 1) (by omega) (by omega)
      have hlt' : (i : Int) < (L : Int) := by omega
      have hiL := decide_eq_true hlt
      obtain ⟨b, hb⟩ : ∃ b, b = hasR r x.k := ⟨_, rfl⟩
      have HH : Hid (∀ V, Calls Tryz.prog 31 #[rgV r, .string x.k] V fun e w' => e = .returned (.bool b) ∧ Below V.heap.size V w') := fun V => by rw [hb]; exact rhas_ r x.k V
      unfold rgV at HH
      have HSn : Hid ((R.take (i + 1)).any (chP r t) = (b && decide (t < x.v.cm))) := by
        show _ = _
        rw [take_snoc hx, List.any_append, HJ.out, hb]
        simp [chP]
      have HAll : Hid (chP r t x = true → R.any (chP r t) = true) := fun h => List.any_eq_true.2 ⟨x, List.mem_of_getElem? hx, h⟩
      have HCp : Hid (chP r t x = (b && decide (t < x.v.cm))) := by show _ = _; rw [hb]; rfl
      clear hx hb hc HX HAt HJ HR0
      generalize chP r t x = cp at *
      generalize x.k = xk at *
      generalize x.v.cm = xc at *
      cases b with
      | false =>
        go_wp2_with fail
        refine wp_region_quiet_below (by kernel_rfl) (by kernel_rfl) ?_
        repeat (go_big_quiet_step (first | (go_at_call 31; exact Calls.regrown_of (HH.out _))))
        refine wpQuiet_nil ?_
        intro _ hw'
        obtain ⟨⟨dq, osq⟩, hw''⟩ := hw'
        subst hw''
        have HB2 : Hid (Below W0.heap.size W0 (grow (redrawn wr dq) osq)) := below_step HB.out (below_regrown wr dq osq)
        generalize grow (redrawn wr dq) osq = W2 at *
        clear s1 s2 r0 r1 r2 r3 r4 r5 d1 d2 e0 e1 e2 e3 e4 e5
        go_wp2_with fail
        go_roundg (L - (i + 1))
        case measure => omega
        case rel => exact ⟨i + 1, by rw [show (i : Int) + 1 = ((i + 1 : Nat) : Int) by omega], by omega, Nat.le_refl _, by rw [HSn.out]; rfl, HB2⟩
      | true =>
        by_cases ht : t < xc
        · have ht' := decide_eq_true ht
          have hgt : xc > t := ht
          go_wp2_with fail
          refine wp_region_quiet_below (by kernel_rfl) (by kernel_rfl) ?_
          repeat (go_big_quiet_step (first | (go_at_call 31; exact Calls.regrown_of (HH.out _))))
          refine wpQuiet_nil ?_
          intro _ hw'
          obtain ⟨⟨dq, osq⟩, hw''⟩ := hw'
          subst hw''
          have HB2 : Hid (Below W0.heap.size W0 (grow (redrawn wr dq) osq)) := below_step HB.out (below_regrown wr dq osq)
          generalize grow (redrawn wr dq) osq = W2 at *
          clear s1 s2 r0 r1 r2 r3 r4 r5 d1 d2 e0 e1 e2 e3 e4 e5
          go_wp2_with fail
          go_ret
          exact ⟨by rw [HAll.out (by rw [HCp.out, ht']; rfl)]; rfl, by rw [HNn.out]; exact HBW.out.trans (HB2.out.mono (by have := HBW.out.size; rw [HNn.out] at this; exact this))⟩
        · have ht' := decide_eq_false ht
          have hgt : ¬ xc > t := ht
          go_wp2_with fail
          refine wp_region_quiet_below (by kernel_rfl) (by kernel_rfl) ?_
          repeat (go_big_quiet_step (first | (go_at_call 31; exact Calls.regrown_of (HH.out _))))
          refine wpQuiet_nil ?_
          intro _ hw'
          obtain ⟨⟨dq, osq⟩, hw''⟩ := hw'
          subst hw''
          have HB2 : Hid (Below W0.heap.size W0 (grow (redrawn wr dq) osq)) := below_step HB.out (below_regrown wr dq osq)
          generalize grow (redrawn wr dq) osq = W2 at *
          clear s1 s2 r0 r1 r2 r3 r4 r5 d1 d2 e0 e1 e2 e3 e4 e5
          go_wp2_with fail
          go_roundg (L - (i + 1))
          case measure => omega
          case rel => exact ⟨i + 1, by rw [show (i : Int) + 1 = ((i + 1 : Nat) : Int) by omega], by omega, Nat.le_refl _, by rw [HSn.out, ht']; rfl, HB2⟩
    · obtain rfl : i = L := by omega
      have HJ2 : Hid (R.any (chP r t) = false) := by have h := HJ.out; rw [HEnd.out] at h; exact h
      clear HX HAt HR0
      have hge : ¬ (i : Int) < (i : Int) := by omega
      go_wp2_with fail
      go_ret
      exact ⟨by rw [HJ2.out]; rfl, by rw [HNn.out]; exact HBW.out.trans (HB.out.mono (by have := HBW.out.size; rw [HNn.out] at this; exact this))⟩
/-- What next tells. -/
def nxV (o : Option ByteArray) : Value := .tuple #[.string (o.getD ⟨#[]⟩), .bool o.isSome]
set_option maxRecDepth 100000 in
set_option maxHeartbeats 8000000 in
theorem rnxt_ {w : World} {B : Nat} {v : Value} {R : List RV} (hr : RowRV w B v R) (hl : R.length ≤ 1000) (r : Rg) (key : ByteArray) (first : Bool) :
    Calls Tryz.prog 29 #[v, rgV r, .string key, .bool first] w fun e w' => e = .returned (nxV (nxtR r key first R)) ∧ Below w.heap.size w w' := by
  obtain ⟨a, c, rfl, hat⟩ := hr.items
  obtain ⟨W0, hW0⟩ : ∃ W0, W0 = w.alloc (.cells #[.string r.f, .string r.t, .bool r.hf, .bool r.ht, .bool r.pf, .bool r.pt] 24) := ⟨_, rfl⟩
  have HBW : Hid (Below w.heap.size w W0) := by show Below _ _ _; rw [hW0]; exact below_alloc w _
  have HR0 : Hid (∀ V, Below W0.heap.size W0 V → RgAt V w.heap.size r) := fun V hV => (by rw [hW0]; exact rgAt_new w r _ : RgAt W0 w.heap.size r).on hV (by rw [hW0]; simp [go_sem])
  have HAt := Lib.hid hat
  have HX : Hid (∀ i, i < R.length → ∃ x, R[i]? = some x) := fun i hi => ⟨_, List.getElem?_eq_getElem hi⟩
  have HEnd : Hid (R.take R.length = R) := List.take_length
  clear hr hat
  generalize hL : R.length = L at *
  clear hL
  unfold rgV
  go_enter Tryz.func29, Tryz.ntmps29
  go_upto_region 1 with fail
  rw [← hW0]
  clear hW0
  generalize hn : w.heap.size = n at *
  have HNn := Lib.hid hn
  clear hn
  go_wp2_with fail
  go_loopg [10, 11, 12] L (fun kx v10 v11 v12 wr => ∃ (i : Nat) (bk : ByteArray) (ba : Bool), v10 = .string bk ∧ v11 = .bool ba ∧ v12 = .int .i64 i ∧ i ≤ L ∧ L - i ≤ kx ∧ Hid (nxtR r key first (R.take i) = if ba then some bk else none) ∧ (ba = false → bk = ⟨#[]⟩) ∧ Hid (Below W0.heap.size W0 wr))
  case atStart => exact ⟨0, ⟨#[]⟩, false, rfl, rfl, rfl, Nat.zero_le _, by omega, rfl, fun _ => rfl, Below.refl _ _⟩
  case round =>
    obtain ⟨i, bk, ba, rfl, rfl, rfl, hi, hkx, HJ, hbk, HB⟩ := hrel
    have HBk := Lib.hid hbk
    clear hbk
    by_cases hlt : i < L
    · obtain ⟨x, hx⟩ := HX.out i hlt
      obtain ⟨g, rfl, hc⟩ := HAt.out i x hx
      have HBw : Hid (Below w.heap.size w wr) := by show Below _ _ _; rw [HNn.out]; exact HBW.out.trans (HB.out.mono (by have := HBW.out.size; rw [HNn.out] at this; exact this))
      have HCk : Hid (∀ V, Below W0.heap.size W0 V → V.cell? ⟨g, i * 4, none⟩ = some (.string x.k)) := fun V hV => (hc V (by rw [HNn.out]; exact HBW.out.trans (hV.mono (by have := HBW.out.size; rw [HNn.out] at this; exact this)))).1
      have d1 := HCk.out wr HB.out
      obtain ⟨e0, e1, e2, e3, e4, e5⟩ := HR0.out wr HB.out
      have s1 := cell_regrown d1
      have r0 := cell_regrown e0
      have r1 := cell_regrown e1
      have r2 := cell_regrown e2
      have r3 := cell_regrown e3
      have r4 := cell_regrown e4
      have r5 := cell_regrown e5
      have hw1 := wraps_i64 ((i : Int) + 1) (by omega) (by omega)
      have hlt' : (i : Int) < (L : Int) := by omega
      have hiL := decide_eq_true hlt
      obtain ⟨b, hb⟩ : ∃ b, b = hasR r x.k := ⟨_, rfl⟩
      have HH : Hid (∀ V, Calls Tryz.prog 31 #[rgV r, .string x.k] V fun e w' => e = .returned (.bool b) ∧ Below V.heap.size V w') := fun V => by rw [hb]; exact rhas_ r x.k V
      unfold rgV at HH
      have hpd : nxP r key first x = (b && (first || ltb key x.k)) := by rw [hb]; rfl
      have HM : Hid ((b && (first || ltb key x.k)) = false → nxtR r key first (R.take (i + 1)) = if ba then some bk else none) := fun h => by rw [nxt_miss hx (by rw [hpd]; exact h)]; exact HJ.out
      have HT : Hid ((b && (first || ltb key x.k)) = true → nxtR r key first (R.take (i + 1)) = stepK (if ba then some bk else none) x.k) := fun h => by rw [nxt_hit hx (by rw [hpd]; exact h), HJ.out]
      clear hx hb hc HX HAt HJ hpd
      generalize x.k = xk at *
      cases b with
      | false =>
        have HM' := Lib.hid (HM.out rfl)
        clear HM HT
        go_wp2_with fail
        refine wp_region_quiet_below (by kernel_rfl) (by kernel_rfl) ?_
        repeat (go_big_quiet_step (first | (go_at_call 31; exact Calls.regrown_of (HH.out _))))
        refine wpQuiet_nil ?_
        intro _ hw'
        obtain ⟨⟨dq, osq⟩, hw''⟩ := hw'
        subst hw''
        have HB2 : Hid (Below W0.heap.size W0 (grow (redrawn wr dq) osq)) := below_step HB.out (below_regrown wr dq osq)
        generalize grow (redrawn wr dq) osq = W2 at *
        clear s1 r0 r1 r2 r3 r4 r5 d1 e0 e1 e2 e3 e4 e5
        go_wp2_with fail
        go_roundg (L - (i + 1))
        case measure => omega
        case rel => exact ⟨i + 1, bk, ba, rfl, rfl, by rw [show (i : Int) + 1 = ((i + 1 : Nat) : Int) by omega], by omega, Nat.le_refl _, HM', HBk.out, HB2⟩
      | true =>
        cases first with
        | true =>
          cases ba with
          | false =>
            have HT' : Hid (nxtR r key true (R.take (i + 1)) = if true = true then some xk else none) := by show _ = _; rw [HT.out (by rfl)]; rfl
            clear HM HT
            go_wp2_with fail
            refine wp_region_quiet_below (by kernel_rfl) (by kernel_rfl) ?_
            repeat (go_big_quiet_step (first | (go_at_call 31; exact Calls.regrown_of (HH.out _))))
            refine wpQuiet_nil ?_
            intro _ hw'
            obtain ⟨⟨dq, osq⟩, hw''⟩ := hw'
            subst hw''
            have HB2 : Hid (Below W0.heap.size W0 (grow (redrawn wr dq) osq)) := below_step HB.out (below_regrown wr dq osq)
            have d9 := HCk.out (grow (redrawn wr dq) osq) HB2.out
            generalize grow (redrawn wr dq) osq = W2 at *
            clear s1 r0 r1 r2 r3 r4 r5 d1 e0 e1 e2 e3 e4 e5
            go_wp2_with fail
            go_roundg (L - (i + 1))
            case measure => omega
            case rel => exact ⟨i + 1, xk, true, rfl, rfl, by rw [show (i : Int) + 1 = ((i + 1 : Nat) : Int) by omega], by omega, Nat.le_refl _, HT', fun h => (by cases h), HB2⟩
          | true =>
            cases hlb : ltb xk bk with
            | true =>
              have q5 : Op.bytesLess xk.toList bk.toList = true := hlb
              have HT' : Hid (nxtR r key true (R.take (i + 1)) = if true = true then some xk else none) := by show _ = _; rw [HT.out (by rfl)]; simp [stepK, hlb]
              clear HM HT hlb
              go_wp2_with fail
              refine wp_region_quiet_below (by kernel_rfl) (by kernel_rfl) ?_
              repeat (go_big_quiet_step (first | (go_at_call 31; exact Calls.regrown_of (HH.out _))))
              refine wpQuiet_nil ?_
              intro _ hw'
              obtain ⟨⟨dq, osq⟩, hw''⟩ := hw'
              subst hw''
              have HB2 : Hid (Below W0.heap.size W0 (grow (redrawn wr dq) osq)) := below_step HB.out (below_regrown wr dq osq)
              have d9 := HCk.out (grow (redrawn wr dq) osq) HB2.out
              generalize grow (redrawn wr dq) osq = W2 at *
              clear s1 r0 r1 r2 r3 r4 r5 d1 e0 e1 e2 e3 e4 e5
              go_wp2_with fail
              go_roundg (L - (i + 1))
              case measure => omega
              case rel => exact ⟨i + 1, xk, true, rfl, rfl, by rw [show (i : Int) + 1 = ((i + 1 : Nat) : Int) by omega], by omega, Nat.le_refl _, HT', fun h => (by cases h), HB2⟩
            | false =>
              have q5 : Op.bytesLess xk.toList bk.toList = false := hlb
              have HT' : Hid (nxtR r key true (R.take (i + 1)) = if true = true then some bk else none) := by show _ = _; rw [HT.out (by rfl)]; simp [stepK, hlb]
              clear HM HT hlb
              go_wp2_with fail
              refine wp_region_quiet_below (by kernel_rfl) (by kernel_rfl) ?_
              repeat (go_big_quiet_step (first | (go_at_call 31; exact Calls.regrown_of (HH.out _))))
              refine wpQuiet_nil ?_
              intro _ hw'
              obtain ⟨⟨dq, osq⟩, hw''⟩ := hw'
              subst hw''
              have HB2 : Hid (Below W0.heap.size W0 (grow (redrawn wr dq) osq)) := below_step HB.out (below_regrown wr dq osq)
              generalize grow (redrawn wr dq) osq = W2 at *
              clear s1 r0 r1 r2 r3 r4 r5 d1 e0 e1 e2 e3 e4 e5
              go_wp2_with fail
              go_roundg (L - (i + 1))
              case measure => omega
              case rel => exact ⟨i + 1, bk, true, rfl, rfl, by rw [show (i : Int) + 1 = ((i + 1 : Nat) : Int) by omega], by omega, Nat.le_refl _, HT', fun h => (by cases h), HB2⟩
        | false =>
          cases hkl : ltb key xk with
          | false =>
            have HM' := Lib.hid (HM.out (by rw [hkl]; rfl))
            clear HM HT
            rcases ltb_cases key xk with q | rfl | q
            · rw [q] at hkl; cases hkl
            · have q1 : Op.bytesLess key.toList key.toList = false := less_irrefl _
              have q3 : (key.toList == key.toList) = true := by simp
              clear hkl
              go_wp2_with fail
              refine wp_region_quiet_below (by kernel_rfl) (by kernel_rfl) ?_
              repeat (go_big_quiet_step (first | (go_at_call 31; exact Calls.regrown_of (HH.out _))))
              refine wpQuiet_nil ?_
              intro _ hw'
              obtain ⟨⟨dq, osq⟩, hw''⟩ := hw'
              subst hw''
              have HB2 : Hid (Below W0.heap.size W0 (grow (redrawn wr dq) osq)) := below_step HB.out (below_regrown wr dq osq)
              generalize grow (redrawn wr dq) osq = W2 at *
              clear s1 r0 r1 r2 r3 r4 r5 d1 e0 e1 e2 e3 e4 e5
              go_wp2_with fail
              go_roundg (L - (i + 1))
              case measure => omega
              case rel => exact ⟨i + 1, bk, ba, rfl, rfl, by rw [show (i : Int) + 1 = ((i + 1 : Nat) : Int) by omega], by omega, Nat.le_refl _, HM', HBk.out, HB2⟩
            · have q1 : Op.bytesLess xk.toList key.toList = true := q
              have q2 : Op.bytesLess key.toList xk.toList = false := ltb_asymm q
              have q3 : (xk.toList == key.toList) = false := eqk_false (ltb_ne q)
              have q6 : (key.toList == xk.toList) = false := eqk_false (Ne.symm (ltb_ne q))
              clear hkl q
              go_wp2_with fail
              refine wp_region_quiet_below (by kernel_rfl) (by kernel_rfl) ?_
              repeat (go_big_quiet_step (first | (go_at_call 31; exact Calls.regrown_of (HH.out _))))
              refine wpQuiet_nil ?_
              intro _ hw'
              obtain ⟨⟨dq, osq⟩, hw''⟩ := hw'
              subst hw''
              have HB2 : Hid (Below W0.heap.size W0 (grow (redrawn wr dq) osq)) := below_step HB.out (below_regrown wr dq osq)
              generalize grow (redrawn wr dq) osq = W2 at *
              clear s1 r0 r1 r2 r3 r4 r5 d1 e0 e1 e2 e3 e4 e5
              go_wp2_with fail
              go_roundg (L - (i + 1))
              case measure => omega
              case rel => exact ⟨i + 1, bk, ba, rfl, rfl, by rw [show (i : Int) + 1 = ((i + 1 : Nat) : Int) by omega], by omega, Nat.le_refl _, HM', HBk.out, HB2⟩
          | true =>
            have q4 : Op.bytesLess key.toList xk.toList = true := hkl
            have q2 : Op.bytesLess xk.toList key.toList = false := ltb_asymm hkl
            have q3 : (xk.toList == key.toList) = false := eqk_false (Ne.symm (ltb_ne hkl))
            cases ba with
            | false =>
              have HT' : Hid (nxtR r key false (R.take (i + 1)) = if true = true then some xk else none) := by show _ = _; rw [HT.out (by rw [hkl]; rfl)]; rfl
              clear HM HT
              go_wp2_with fail
              refine wp_region_quiet_below (by kernel_rfl) (by kernel_rfl) ?_
              repeat (go_big_quiet_step (first | (go_at_call 31; exact Calls.regrown_of (HH.out _))))
              refine wpQuiet_nil ?_
              intro _ hw'
              obtain ⟨⟨dq, osq⟩, hw''⟩ := hw'
              subst hw''
              have HB2 : Hid (Below W0.heap.size W0 (grow (redrawn wr dq) osq)) := below_step HB.out (below_regrown wr dq osq)
              have d9 := HCk.out (grow (redrawn wr dq) osq) HB2.out
              generalize grow (redrawn wr dq) osq = W2 at *
              clear s1 r0 r1 r2 r3 r4 r5 d1 e0 e1 e2 e3 e4 e5
              go_wp2_with fail
              go_roundg (L - (i + 1))
              case measure => omega
              case rel => exact ⟨i + 1, xk, true, rfl, rfl, by rw [show (i : Int) + 1 = ((i + 1 : Nat) : Int) by omega], by omega, Nat.le_refl _, HT', fun h => (by cases h), HB2⟩
            | true =>
              cases hlb : ltb xk bk with
              | true =>
                have q5 : Op.bytesLess xk.toList bk.toList = true := hlb
                have HT' : Hid (nxtR r key false (R.take (i + 1)) = if true = true then some xk else none) := by show _ = _; rw [HT.out (by rw [hkl]; rfl)]; simp [stepK, hlb]
                clear HM HT hlb
                go_wp2_with fail
                refine wp_region_quiet_below (by kernel_rfl) (by kernel_rfl) ?_
                repeat (go_big_quiet_step (first | (go_at_call 31; exact Calls.regrown_of (HH.out _))))
                refine wpQuiet_nil ?_
                intro _ hw'
                obtain ⟨⟨dq, osq⟩, hw''⟩ := hw'
                subst hw''
                have HB2 : Hid (Below W0.heap.size W0 (grow (redrawn wr dq) osq)) := below_step HB.out (below_regrown wr dq osq)
                have d9 := HCk.out (grow (redrawn wr dq) osq) HB2.out
                generalize grow (redrawn wr dq) osq = W2 at *
                clear s1 r0 r1 r2 r3 r4 r5 d1 e0 e1 e2 e3 e4 e5
                go_wp2_with fail
                go_roundg (L - (i + 1))
                case measure => omega
                case rel => exact ⟨i + 1, xk, true, rfl, rfl, by rw [show (i : Int) + 1 = ((i + 1 : Nat) : Int) by omega], by omega, Nat.le_refl _, HT', fun h => (by cases h), HB2⟩
              | false =>
                have q5 : Op.bytesLess xk.toList bk.toList = false := hlb
                have HT' : Hid (nxtR r key false (R.take (i + 1)) = if true = true then some bk else none) := by show _ = _; rw [HT.out (by rw [hkl]; rfl)]; simp [stepK, hlb]
                clear HM HT hlb
                go_wp2_with fail
                refine wp_region_quiet_below (by kernel_rfl) (by kernel_rfl) ?_
                repeat (go_big_quiet_step (first | (go_at_call 31; exact Calls.regrown_of (HH.out _))))
                refine wpQuiet_nil ?_
                intro _ hw'
                obtain ⟨⟨dq, osq⟩, hw''⟩ := hw'
                subst hw''
                have HB2 : Hid (Below W0.heap.size W0 (grow (redrawn wr dq) osq)) := below_step HB.out (below_regrown wr dq osq)
                generalize grow (redrawn wr dq) osq = W2 at *
                clear s1 r0 r1 r2 r3 r4 r5 d1 e0 e1 e2 e3 e4 e5
                go_wp2_with fail
                go_roundg (L - (i + 1))
                case measure => omega
                case rel => exact ⟨i + 1, bk, true, rfl, rfl, by rw [show (i : Int) + 1 = ((i + 1 : Nat) : Int) by omega], by omega, Nat.le_refl _, HT', fun h => (by cases h), HB2⟩
    · obtain rfl : i = L := by omega
      have HJ2 : Hid (nxtR r key first R = if ba then some bk else none) := by have h := HJ.out; rw [HEnd.out] at h; exact h
      clear HX HAt HR0
      have hge : ¬ (i : Int) < (i : Int) := by omega
      cases ba with
      | false =>
        obtain rfl : bk = ⟨#[]⟩ := HBk.out rfl
        go_wp2_with fail
        go_ret2
        exact ⟨by rw [HJ2.out]; rfl, by rw [HNn.out]; exact HBW.out.trans (HB.out.mono (by have := HBW.out.size; rw [HNn.out] at this; exact this))⟩
      | true =>
        go_wp2_with fail
        go_ret2
        exact ⟨by rw [HJ2.out]; rfl, by rw [HNn.out]; exact HBW.out.trans (HB.out.mono (by have := HBW.out.size; rw [HNn.out] at this; exact this))⟩
end Go.Proofs.YtagamkahfiackaaGreatDoor
