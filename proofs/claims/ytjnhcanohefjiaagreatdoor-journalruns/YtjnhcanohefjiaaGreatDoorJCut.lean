/- journal.Cut. -/
import Derived.Test.YtjnhcanohefjiaaGreatDoorJJC
namespace Go.Proofs.YtjnhcanohefjiaaGreatDoor
open Go.RowKit Go.Sort Go.Maps

/-- Cut refuses its number, or because records wait. -/
abbrev cutBad (J : Jr) (n : Int) : Prop := n < 0 ∨ (J.pss.length : Int) < n ∨ J.sf ≠ J.pss.length
/-- What Cut answers, and what is left. -/
def cutE (d : Dev) (J : Jr) (n : Int) : Nat := if J.dead ≠ 0 then J.dead else if cutBad J n then 1 else cleanE J.a (allB J.ep (J.pss.take n.toNat)) d
def cutD (d : Dev) (J : Jr) (n : Int) : Dev := if J.dead ≠ 0 then d else if cutBad J n then d else cleanD J.a (allB J.ep (J.pss.take n.toNat)) d
def cutJ (d : Dev) (J : Jr) (n : Int) : Jr := if J.dead ≠ 0 then J else if cutBad J n then J else ⟨J.a, J.ep, J.pss.take n.toNat, n.toNat, cleanE J.a (allB J.ep (J.pss.take n.toNat)) d⟩
theorem okJ.cut {J : Jr} (h : okJ J) {n : Nat} (hn : n ≤ J.pss.length) (k : Nat) : okJ ⟨J.a, J.ep, J.pss.take n, n, k⟩ :=
  ⟨fun p hp => h.pays p (List.mem_of_mem_take hp), h.ep, by show n ≤ (J.pss.take n).length; rw [List.length_take]; omega, Nat.le_trans (upto_le J n) h.len, h.g, h.f, h.s⟩
theorem endsL_take (ep : Nat) (pss : List (List Nat)) (n : Nat) (hn : n ≤ pss.length) : endsL ep (pss.take n) = (endsL ep pss).take n := by
  apply List.ext_getElem?
  intro i
  rw [List.getElem?_take]
  unfold endsL
  rw [List.length_take, Nat.min_eq_left hn]
  by_cases hi : i < n
  · rw [if_pos hi]
    simp only [List.getElem?_map]
    rw [List.getElem?_range hi, List.getElem?_range (by omega)]
    simp only [Option.map_some]
    rw [List.take_take, Nat.min_eq_left (by omega)]
  · rw [if_neg hi, List.getElem?_eq_none (by simp; omega)]
theorem cut_begins {d : Dev} {J : Jr} (h : Calm d J) (hs : J.sf = J.pss.length) (n : Nat) : Begins d J.a (allB J.ep (J.pss.take n)) := by
  have hl := h.lies
  rw [hs, List.take_length] at hl
  have := begins_lies hl (J.upto n)
  have e := upto_take J n
  unfold Jr.row at e
  rw [e] at this
  exact this
theorem okJ.cutByte {J : Jr} (h : okJ J) (n : Nat) : ∀ x ∈ allB J.ep (J.pss.take n), x < 256 := allB_byte _ _ fun p hp => h.pays p (List.mem_of_mem_take hp)
/-- A Cut that goes well. -/
theorem Calm.cut {d : Dev} {J : Jr} (h : Calm d J) (hj : okJ J) (n : Int) (hb : ¬ cutBad J n) (he : cutE d J n = 0) : Calm (cutD d J n) (cutJ d J n) := by
  have hd' : ¬ J.dead ≠ 0 := fun e => e h.alive
  unfold cutE at he
  unfold cutD cutJ
  rw [if_neg hd', if_neg hb] at he
  simp only [if_neg hd', if_neg hb, he]
  have hs : J.sf = J.pss.length := by
    apply Classical.byContradiction
    exact fun e => hb (.inr (.inr e))
  obtain ⟨g1, g2, g3, g4, g5, g6⟩ := clean_good h.ok h.pend h.cr h.inn (hj.cutByte n.toNat) (cut_begins h hs n.toNat) he
  refine ⟨g3, g1, g2, ?_, ?_, rfl⟩
  · show inJ _ J.a
    unfold inJ
    rw [g5, g6]
    exact h.inn
  · show Lies _ J.a (allB J.ep ((J.pss.take n.toNat).take n.toNat))
    rw [List.take_take, Nat.min_self]
    exact g4
/-- The journal behind the three stores. -/
theorem cut_made {w : World} {base p aa bb q : Nat} {d : Dev} {K : Nat} {J : Jr} {ra ea : Option Addr} {rl rc el ec : Nat} (h : Jn w base p aa bb q d K J (.slice ra rl rc) (.slice ea el ec)) (n : Nat) (hn : n ≤ J.pss.length) (hd : J.dead = 0) (V : World) (hV : Below w.heap.size w V) :
    Jn (((V.setCell ⟨q, 5, none⟩ (.slice ra (J.upto n) rc)).setCell ⟨q, 6, none⟩ (.slice ea n ec)).setCell ⟨q, 7, none⟩ (.int .i64 (n : Nat))) base p aa bb q d K ⟨J.a, J.ep, J.pss.take n, n, 0⟩ (.slice ra (J.upto n) rc) (.slice ea n ec)
    ∧ Ext (Mine p aa bb q (.slice ra rl rc) (.slice ea el ec)) (Mine p aa bb q (.slice ra (J.upto n) rc) (.slice ea n ec)) w (((V.setCell ⟨q, 5, none⟩ (.slice ra (J.upto n) rc)).setCell ⟨q, 6, none⟩ (.slice ea n ec)).setCell ⟨q, 7, none⟩ (.int .i64 (n : Nat))) := by
  have hj := h.on hV
  have b1 := heap_set (o := 5) (.slice ra (J.upto n) rc) hj.jr.blk
  have b2 := heap_set (o := 6) (.slice ea n ec) b1
  have b3 := heap_set (o := 7) (.int .i64 (n : Nat)) b2
  have hf : ∀ i, i ≠ q → (((V.setCell ⟨q, 5, none⟩ (.slice ra (J.upto n) rc)).setCell ⟨q, 6, none⟩ (.slice ea n ec)).setCell ⟨q, 7, none⟩ (.int .i64 (n : Nat))).heap[i]? = V.heap[i]? := fun i hi => by rw [heap_far _ hi, heap_far _ hi, heap_far _ hi]
  have hrow := hj.jr.row
  have hends := hj.jr.ends
  have hrl : rl = J.row.length := by
    obtain ⟨a, c, e, _⟩ := hrow.bytes
    injection e
  have hel : el = J.ends.length := by
    obtain ⟨a, c, e, _⟩ := hends.slice
    injection e
  have hr2 : Own V base (.slice ra (J.upto n) rc) (allB J.ep (J.pss.take n)) := by
    have := row_cut (m := J.upto n) (by rw [hrl] at hrow; exact hrow) (upto_le J n)
    unfold Own
    have e : vals (allB J.ep (J.pss.take n)) = (vals J.row).take (J.upto n) := by rw [← upto_take]; simp [vals]
    rw [e]
    exact this
  have he2 : OwnI V base (.slice ea n ec) (endsL J.ep (J.pss.take n)) := by
    have hen : J.ends.length = J.pss.length := ends_len J
    have := row_cut (m := n) (by rw [hel] at hends; exact hends) (by omega)
    unfold OwnI
    have e1 : valsI (endsL J.ep (J.pss.take n)) = (valsI J.ends).take n := by
      rw [endsL_take _ _ _ hn]
      unfold Jr.ends
      simp [valsI]
    have e2 : (endsL J.ep (J.pss.take n)).length = n := by rw [endsL_length, List.length_take]; omega
    rw [e1, e2]
    exact this
  refine ⟨hj.setq ?_ hf hr2 he2 (h.jr.ok.cut hn 0), (Ext.of_below _ hV).trans (Ext.setq rfl rfl rfl (by simp [World.setCell]) hf ?_ ?_)⟩
  · rw [b3]
    simp only [jrC, hd]
    rfl
  · intro k e
    cases ra with
    | none => simp [Value.ownBlock] at e
    | some x => exact e
  · intro k e
    cases ea with
    | none => simp [Value.ownBlock] at e
    | some x => exact e
set_option maxRecDepth 100000 in
set_option maxHeartbeats 2000000 in
theorem jcut_no {w : World} {base p aa bb q : Nat} {d : Dev} {K : Nat} {J : Jr} {rv ev : Value} (h : Jn w base p aa bb q d K J rv ev) (hK : K + J.a.s.toNat < 1000000) (n : Int) (hno : J.dead ≠ 0 ∨ cutBad J n) :
    Calls Tryz.prog 21 #[.pointer (some ⟨q, 0, none⟩), .int .i64 n] w fun e w' => e = .returned (errV (cutE d J n)) ∧ JnTo w base p aa bb q rv ev (cutD d J n) (K + J.a.s.toNat) (cutJ d J n) w' := by
  have HRf := Lib.hid (jrefuse_ h.jr)
  by_cases hd : J.dead ≠ 0
  · have e1 : cutE d J n = J.dead := if_pos hd
    have e2 : cutD d J n = d := if_pos hd
    have e3 : cutJ d J n = J := if_pos hd
    have HE := Lib.hid (JnTo.same (h.mono (K' := K + J.a.s.toNat) (by omega) (by omega)) (Below.refl _ _))
    rw [e1, e2, e3]
    rw [errV_not hd] at HRf ⊢
    clear h e1 e2 e3 hno
    go_enter Tryz.func21, Tryz.ntmps21
    go_wp2_with (first | (go_at_call 41; refine HRf.out.mono ?_; rintro e w1 ⟨rfl, rfl⟩) | fail)
    go_ret
    exact ⟨rfl, HE.out⟩
  have hbad : cutBad J n := by rcases hno with q | q; exact absurd q hd; exact q
  have e0 : errV J.dead = .nilIface := by rw [show J.dead = 0 by simpa using hd]; rfl
  have e01 : errV 1 = .iface 68 (.int .i64 1) := rfl
  rw [e0] at HRf
  have HWt := Lib.hid (jwaits_ h.jr)
  have hsf := h.jr.ok.sf
  obtain ⟨_, _, _, _, _, _, q6, _⟩ := h.jr.cells
  obtain ⟨ea, ec, hev, _⟩ := h.jr.ends.shape
  rw [ends_len] at hev
  have e1 : cutE d J n = 1 := by unfold cutE; rw [if_neg hd, if_pos hbad]
  have e2 : cutD d J n = d := by unfold cutD; rw [if_neg hd, if_pos hbad]
  have e3 : cutJ d J n = J := by unfold cutJ; rw [if_neg hd, if_pos hbad]
  have HE : Hid (∀ w', Below w.heap.size w w' → JnTo w base p aa bb q rv ev d (K + J.a.s.toNat) J w') := fun w' hb => JnTo.same (h.mono (K' := K + J.a.s.toNat) (by omega) (by omega)) hb
  rw [e1, e2, e3, e01]
  rw [hev] at q6
  unfold cutBad at hbad
  generalize hm : J.pss.length = m at *
  generalize hwt : m - J.sf = wt at *
  have hcn := h.jr.ok.count
  clear h e1 e2 e3 hno hev
  by_cases c1 : n < 0
  · clear hbad HWt hwt
    go_enter Tryz.func21, Tryz.ntmps21
    go_wp2_with (first | (go_at_call 41; refine HRf.out.mono ?_; rintro e w1 ⟨rfl, rfl⟩) | fail)
    go_ret
    exact ⟨rfl, HE.out _ (Below.refl _ _)⟩
  · by_cases c2 : n > (m : Int)
    · clear hbad HWt hwt
      go_enter Tryz.func21, Tryz.ntmps21
      go_wp2_with (first | (go_at_call 41; refine HRf.out.mono ?_; rintro e w1 ⟨rfl, rfl⟩) | fail)
      go_ret
      exact ⟨rfl, HE.out _ (Below.refl _ _)⟩
    · have hw : (wt : Int) > 0 := by omega
      clear hbad hwt
      go_enter Tryz.func21, Tryz.ntmps21
      go_wp2_with (first
        | (go_at_call 41; refine HRf.out.mono ?_; rintro e w1 ⟨rfl, rfl⟩)
        | (go_at_call 16; refine HWt.out.mono ?_; rintro e w2 ⟨rfl, hb2⟩; have HB2 := Lib.hid hb2; clear hb2)
        | fail)
      go_ret
      exact ⟨rfl, HE.out _ HB2.out⟩
theorem slice_h {t e : TypeId} (ht : Tryz.prog.underlying t = some (.slice e)) (hs : ∀ w, (sizeOf e).run Tryz.prog w = .ok 1 w) (a : Option Addr) (ha : ∀ x, a = some x → x.spot = none) (len cap h : Nat) (hh : h ≤ cap) (w : World) : (Instr.sliceAt t (.slice a len cap) none (some (.int .i64 (h : Int))) none).run Tryz.prog w = .ok (.slice a h cap) w := by
  have he : Tryz.prog.elem t = e := by simp [Program.elem, ht]
  rw [run_sliceAt_slice w t _ _ _ _ (by rw [he]; exact ht), run_slice_h w t a len cap (by rw [he]; exact ht) .i64 (h : Int) (by omega) (by omega), he, hs]
  simp only [Result.andThen, sliced, Int.toNat_natCast, Nat.sub_zero, Nat.zero_mul]
  cases a with
  | none => simp
  | some x =>
    obtain ⟨b, o, sp⟩ := x
    obtain rfl : sp = none := ha _ rfl
    simp [Addr.add]
theorem yields_slice_h {S : World → Prop} {ops : Array Oper} {o : Oper} {a : Act} (hw : Region.wanted o (yielded ops a.tmps) = true) (t : TypeId) (x y : Operand) (ho : o.op = .slice t x none (some y) none) (xv yv v : Value) (hx : a.eval x = xv) (hy : a.eval y = yv)
    (hr : ∀ w, (Instr.sliceAt t xv none (some yv) none).run Tryz.prog w = .ok v w) : YieldsIf Tryz.prog ops S o v a :=
  .inl ⟨hw, fun w _ => by
    unfold execOp
    simp only [ho, hx, hy, Option.map_some, Option.map_none, hr w, Sem.run_bind, Sem.run_pure, Result.andThen_ok]⟩
theorem size1B : ∀ w, (sizeOf 5).run Tryz.prog w = .ok 1 w := by intro w; kernel_rfl
theorem size1I : ∀ w, (sizeOf 3).run Tryz.prog w = .ok 1 w := by intro w; kernel_rfl
theorem store_bytes {w : World} {q o : Nat} {v : Value} {a : Option Addr} {n c : Nat} (hc : w.cell? ⟨q, o, none⟩ = some v) (hf : w.frozen? ⟨q, o, none⟩ = false) : (Instr.storeAt 53 (.pointer (some ⟨q, o, none⟩)) (.slice a n c)).run Tryz.prog w = .ok () (w.setCell ⟨q, o, none⟩ (.slice a n c)) := by
  have hs : (sizeOf 53).run Tryz.prog w = .ok 1 w := by kernel_rfl
  simp only [Instr.storeAt, Instr.sureAddr, Sem.run_bind, Sem.run_pure, Result.andThen]
  simp [storeVar, hs, Value.cells, Result.andThen, storeCells, hc, hf, go_sem]
theorem store_int {w : World} {q o : Nat} {v : Value} {n : Int} (hc : w.cell? ⟨q, o, none⟩ = some v) (hf : w.frozen? ⟨q, o, none⟩ = false) : (Instr.storeAt 3 (.pointer (some ⟨q, o, none⟩)) (.int .i64 n)).run Tryz.prog w = .ok () (w.setCell ⟨q, o, none⟩ (.int .i64 n)) := by
  have hs : (sizeOf 3).run Tryz.prog w = .ok 1 w := by kernel_rfl
  simp only [Instr.storeAt, Instr.sureAddr, Sem.run_bind, Sem.run_pure, Result.andThen]
  simp [storeVar, hs, Value.cells, Result.andThen, storeCells, hc, hf, go_sem]
set_option maxRecDepth 100000 in
set_option maxHeartbeats 2000000 in
theorem jcut_ok {w : World} {base p aa bb q : Nat} {d : Dev} {K : Nat} {J : Jr} {rv ev : Value} (h : Jn w base p aa bb q d K J rv ev) (hK : K + J.a.s.toNat < 1000000) (n : Nat) (hd : J.dead = 0) (hn : n ≤ J.pss.length) (hsf : J.sf = J.pss.length) (hc : d.crashed = false) (hin : inJ d J.a) :
    Calls Tryz.prog 21 #[.pointer (some ⟨q, 0, none⟩), .int .i64 n] w fun e w' => e = .returned (errV (cleanE J.a (allB J.ep (J.pss.take n)) d)) ∧ JnTo w base p aa bb q rv ev (cleanD J.a (allB J.ep (J.pss.take n)) d) (K + J.a.s.toNat) ⟨J.a, J.ep, J.pss.take n, n, cleanE J.a (allB J.ep (J.pss.take n)) d⟩ w' := by
  have HRf := Lib.hid (jrefuse_ h.jr)
  have e0 : errV J.dead = .nilIface := by rw [hd]; rfl
  rw [e0] at HRf
  have HWt := Lib.hid (jwaits_ h.jr)
  rw [show J.pss.length - J.sf = 0 by omega] at HWt
  obtain ⟨ra, rc, hrv, _, _⟩ := h.jr.row.bytes
  obtain ⟨ea, ec, hev, _⟩ := h.jr.ends.shape
  rw [ends_len] at hev
  subst hrv hev
  have hcn := h.jr.ok.count
  have hrl := h.jr.ok.row_le
  have hup := upto_le J n
  obtain ⟨hra, hur⟩ : (∀ x, ra = some x → x.spot = none) ∧ J.upto n ≤ rc := by
    rcases h.jr.row.shape with ⟨e, e2⟩ | ⟨g, c, e, e2, _⟩
    · injection e with e3 e4 e5
      subst e3 e5
      exact ⟨fun x hx => (by cases hx), by rw [e2] at hup; simpa using hup⟩
    · injection e with e3 e4 e5
      subst e3 e5
      exact ⟨fun x hx => (by cases hx; rfl), Nat.le_trans hup e2⟩
  obtain ⟨hea, hen⟩ : (∀ x, ea = some x → x.spot = none) ∧ n ≤ ec := by
    have hE := h.jr.ends
    have hel := ends_len J
    rcases hE.2 with ⟨e, e2⟩ | ⟨g, c, cur, e, _, _, e2, _⟩
    · injection e with e3 e4 e5
      subst e3 e5
      exact ⟨fun x hx => (by cases hx), by omega⟩
    · injection e with e3 e4 e5
      subst e3 e5
      exact ⟨fun x hx => (by cases hx; rfl), by omega⟩
  have HEn : Hid (∀ V, Below w.heap.size w V → Calls Tryz.prog 45 #[.pointer (some ⟨q, 0, none⟩), .int .i64 n] V fun e w' => e = .returned (.int .i64 (J.upto n : Nat)) ∧ w' = V) := fun V hV => jend_ (h.jr.on hV) n hn
  have HMk := Lib.hid (fun V (hV : Below w.heap.size w V) => cut_made h n hn hd V hV)
  have HCl : Hid (∀ V, Jn V base p aa bb q d K ⟨J.a, J.ep, J.pss.take n, n, 0⟩ (.slice ra (J.upto n) rc) (.slice ea n ec) → Calls Tryz.prog 28 #[.pointer (some ⟨q, 0, none⟩)] V fun e w' => e = .returned (errV (cleanE J.a (allB J.ep (J.pss.take n)) d)) ∧ Jn w' base p aa bb q (cleanD J.a (allB J.ep (J.pss.take n)) d) (K + J.a.s.toNat) ⟨J.a, J.ep, J.pss.take n, n, 0⟩ (.slice ra (J.upto n) rc) (.slice ea n ec) ∧ Ext (Mine p aa bb q (.slice ra (J.upto n) rc) (.slice ea n ec)) (Mine p aa bb q (.slice ra (J.upto n) rc) (.slice ea n ec)) V w') := fun V hV =>
    (jclean_ hV.jr hV.dev hc hin hK).mono fun e w' ⟨q1, q2, q3⟩ => ⟨q1, hV.fd q2 q3, Ext.of_fd q _ _ q3⟩
  have HFl : Hid (∀ w2, Jn w2 base p aa bb q (cleanD J.a (allB J.ep (J.pss.take n)) d) (K + J.a.s.toNat) ⟨J.a, J.ep, J.pss.take n, n, 0⟩ (.slice ra (J.upto n) rc) (.slice ea n ec) → Ext (Mine p aa bb q (.slice ra J.row.length rc) (.slice ea J.pss.length ec)) (Mine p aa bb q (.slice ra (J.upto n) rc) (.slice ea n ec)) w w2 → Calls Tryz.prog 44 #[.pointer (some ⟨q, 0, none⟩), errV (cleanE J.a (allB J.ep (J.pss.take n)) d)] w2 fun e w' => e = .returned (errV (cleanE J.a (allB J.ep (J.pss.take n)) d)) ∧ JnTo w base p aa bb q (.slice ra J.row.length rc) (.slice ea J.pss.length ec) (cleanD J.a (allB J.ep (J.pss.take n)) d) (K + J.a.s.toNat) ⟨J.a, J.ep, J.pss.take n, n, cleanE J.a (allB J.ep (J.pss.take n)) d⟩ w') := fun w2 hj hx => (jfail_ hj _).mono fun e w' ⟨q1, q2, q3⟩ => ⟨q1, _, _, q2, hx.trans q3⟩
  have HB := Lib.hid h.jr.blk
  obtain ⟨_, _, _, _, _, q5, q6, q7, _⟩ := h.jr.cells
  unfold jrC at HB
  generalize (⟨J.a, J.ep, J.pss.take n, n, cleanE J.a (allB J.ep (J.pss.take n)) d⟩ : Jr) = J2 at *
  generalize (⟨J.a, J.ep, J.pss.take n, n, 0⟩ : Jr) = J1 at *
  generalize cleanE J.a (allB J.ep (J.pss.take n)) d = k at *
  generalize cleanD J.a (allB J.ep (J.pss.take n)) d = d1 at *
  generalize K + J.a.s.toNat = K1 at *
  generalize hL : J.row.length = L at *
  generalize hm : J.pss.length = m at *
  generalize J.upto n = u at *
  generalize J.sf = sf at *
  generalize errV k = kv at *
  clear h hL hm hd hsf hc hin hK
  have hn0 : ¬ (n : Int) < 0 := by omega
  have hn1 : ¬ (n : Int) > (m : Int) := by omega
  have hu0 : decide ((u : Int) ≤ (L : Int)) = true := decide_eq_true (by omega)
  go_enter Tryz.func21, Tryz.ntmps21
  go_wp2_with (first
    | (go_at_call 41; refine HRf.out.mono ?_; rintro e w1 ⟨rfl, hw1⟩; obtain rfl : w = w1 := hw1.symm)
    | (go_at_call 16; refine HWt.out.mono ?_; rintro e w2 ⟨rfl, hb2⟩; have HB2 := Lib.hid hb2; clear hb2)
    | fail)
  refine wp_region_noPanic ?_
  have hbq := (HB2.out.block _ (blk_lt HB.out)).trans HB.out
  obtain ⟨W, hW⟩ : ∃ W, W = w2.drew := ⟨_, rfl⟩
  have hWq : W.heap[q]? = some (.cells #[.pointer (some ⟨p, 0, none⟩), .int .i64 J.a.g, .int .i64 J.a.f, .int .i64 J.a.s, .int .u64 J.ep, .slice ra L rc, .slice ea m ec, .int .i64 sf, errV J.dead] 80 (0, 0)) := by rw [hW]; exact hbq
  have hBW : Below w.heap.size w W := by rw [hW]; exact below_step HB2.out (below_drew _)
  have b1 := heap_set (o := 5) (.slice ra u rc) hWq
  have b2 := heap_set (o := 6) (.slice ea n ec) b1
  have D5 : Hid (W.cell? ⟨q, 5, none⟩ = some (.slice ra L rc)) := cell_of hWq rfl
  have D6 : Hid (W.cell? ⟨q, 6, none⟩ = some (.slice ea m ec)) := cell_of hWq rfl
  have S5 := Lib.hid (store_bytes (w := W) (q := q) (o := 5) (a := ra) (n := u) (c := rc) (cell_of hWq rfl) (frozen_of hWq))
  have S6 := Lib.hid (store_ints (w := W.setCell ⟨q, 5, none⟩ (.slice ra u rc)) (q := q) (o := 6) (a := ea) (n := n) (c := ec) (cell_of b1 rfl) (frozen_of b1))
  have S7 := Lib.hid (store_int (w := (W.setCell ⟨q, 5, none⟩ (.slice ra u rc)).setCell ⟨q, 6, none⟩ (.slice ea n ec)) (q := q) (o := 7) (n := (n : Int)) (cell_of b2 rfl) (frozen_of b2))
  have HS5 := Lib.hid (fun V => slice_h Tryz.underlying53 size1B ra hra L rc u hur V)
  have HS6 := Lib.hid (fun V => slice_h Tryz.underlying41 size1I ea hea m ec n hen V)
  have HE9 := Lib.hid (HEn.out W hBW)
  have HZ := Lib.hid (HMk.out W hBW)
  clear hbq hWq hBW b1 b2 q5 q6 q7 HB HB2 HEn HMk HRf HWt
  refine wp_region_held_drew (S := fun _ => True) (by kernel_rfl) trivial (fun hHeld => ?_)
  rw [← hW]
  clear hW
  refine take_at 0 (.pointer (some ⟨q, 0, none⟩)) rfl (by kernel_rfl) (by kernel_rfl) (by kernel_rfl) (fun _ _ _ h => h) (Or.inl ⟨by rfl, ?_⟩) trivial ?_
  · intro V hSV; go_simp
  simp only [Act.put, List.setIfInBounds_toArray, List.set_cons_zero, List.set_cons_succ]
  refine take_at 1 (.pointer (some ⟨q, 0, none⟩)) rfl (by kernel_rfl) (by kernel_rfl) (by kernel_rfl) (fun _ _ _ h => h) (Or.inl ⟨by rfl, ?_⟩) trivial ?_
  · intro V hSV; go_simp
  simp only [Act.put, List.setIfInBounds_toArray, List.set_cons_zero, List.set_cons_succ]
  refine take_at 2 (.pointer (some ⟨q, 0, none⟩)) rfl (by kernel_rfl) (by kernel_rfl) (by kernel_rfl) (fun _ _ _ h => h) (Or.inl ⟨by rfl, ?_⟩) trivial ?_
  · intro V hSV; go_simp
  simp only [Act.put, List.setIfInBounds_toArray, List.set_cons_zero, List.set_cons_succ]
  refine take_at 3 (.pointer (some ⟨q, 0, none⟩)) rfl (by kernel_rfl) (by kernel_rfl) (by kernel_rfl) (fun _ _ _ h => h) (Or.inl ⟨by rfl, ?_⟩) trivial ?_
  · intro V hSV; go_simp
  simp only [Act.put, List.setIfInBounds_toArray, List.set_cons_zero, List.set_cons_succ]
  refine take_at 4 (.pointer (some ⟨q, 0, none⟩)) rfl (by kernel_rfl) (by kernel_rfl) (by kernel_rfl) (fun _ _ _ h => h) (Or.inl ⟨by rfl, ?_⟩) trivial ?_
  · intro V hSV; go_simp
  simp only [Act.put, List.setIfInBounds_toArray, List.set_cons_zero, List.set_cons_succ]
  refine take_at 5 (.pointer (some ⟨q, 5, none⟩)) rfl (by kernel_rfl) (by kernel_rfl) (by kernel_rfl) (fun _ _ _ h => h) (Or.inl ⟨by rfl, ?_⟩) trivial ?_
  · intro V hSV; go_simp
  simp only [Act.put, List.setIfInBounds_toArray, List.set_cons_zero, List.set_cons_succ]
  refine take_at 7 (.pointer (some ⟨q, 0, none⟩)) rfl (by kernel_rfl) (by kernel_rfl) (by kernel_rfl) (fun _ _ _ h => h) (Or.inl ⟨by rfl, ?_⟩) trivial ?_
  · intro V hSV; go_simp
  simp only [Act.put, List.setIfInBounds_toArray, List.set_cons_zero, List.set_cons_succ]
  refine take_at 8 (.int .i64 n) rfl (by kernel_rfl) (by kernel_rfl) (by kernel_rfl) (fun _ _ _ h => h) (Or.inl ⟨by rfl, ?_⟩) trivial ?_
  · intro V hSV; go_simp
  simp only [Act.put, List.setIfInBounds_toArray, List.set_cons_zero, List.set_cons_succ]
  refine take_at 11 (.pointer (some ⟨q, 0, none⟩)) rfl (by kernel_rfl) (by kernel_rfl) (by kernel_rfl) (fun _ _ _ h => h) (Or.inl ⟨by rfl, ?_⟩) trivial ?_
  · intro V hSV; go_simp
  simp only [Act.put, List.setIfInBounds_toArray, List.set_cons_zero, List.set_cons_succ]
  refine take_at 12 (.pointer (some ⟨q, 0, none⟩)) rfl (by kernel_rfl) (by kernel_rfl) (by kernel_rfl) (fun _ _ _ h => h) (Or.inl ⟨by rfl, ?_⟩) trivial ?_
  · intro V hSV; go_simp
  simp only [Act.put, List.setIfInBounds_toArray, List.set_cons_zero, List.set_cons_succ]
  refine take_at 13 (.pointer (some ⟨q, 6, none⟩)) rfl (by kernel_rfl) (by kernel_rfl) (by kernel_rfl) (fun _ _ _ h => h) (Or.inl ⟨by rfl, ?_⟩) trivial ?_
  · intro V hSV; go_simp
  simp only [Act.put, List.setIfInBounds_toArray, List.set_cons_zero, List.set_cons_succ]
  refine take_at 15 (.int .i64 n) rfl (by kernel_rfl) (by kernel_rfl) (by kernel_rfl) (fun _ _ _ h => h) (Or.inl ⟨by rfl, ?_⟩) trivial ?_
  · intro V hSV; go_simp
  simp only [Act.put, List.setIfInBounds_toArray, List.set_cons_zero, List.set_cons_succ]
  refine take_at 17 (.int .i64 n) rfl (by kernel_rfl) (by kernel_rfl) (by kernel_rfl) (fun _ _ _ h => h) (Or.inl ⟨by rfl, ?_⟩) trivial ?_
  · intro V hSV; go_simp
  simp only [Act.put, List.setIfInBounds_toArray, List.set_cons_zero, List.set_cons_succ]
  refine wpAnyH_ready (rs := [6, 9, 14]) (by kernel_rfl) (by simp) (cons_at 6 (v := .slice ra L rc) (w' := W) rfl (by rfl) (by have e0 := D5.out; go_simp) trivial ?n6x1 (cons_op 9 rfl (fun KK hK => ?n9x1) (cons_at 14 (v := .slice ea m ec) (w' := W) rfl (by rfl) (by have e0 := D6.out; go_simp) trivial ?n14x1 AllReadyH.nil)))
  case n6x1 =>
    simp only [Act.put, List.setIfInBounds_toArray, List.set_cons_zero, List.set_cons_succ]
    refine wpAnyH_ready (rs := [9, 14]) (by kernel_rfl) (by simp) (cons_op 9 rfl (fun KK hK => ?n9x2) (cons_at 14 (v := .slice ea m ec) (w' := W) rfl (by rfl) (by have e0 := D6.out; go_simp) trivial ?n14x2 AllReadyH.nil))
    case n9x2 =>
      go_simp
      go_wp2_with (first | (go_at_call 45; refine HE9.out.mono ?_; rintro e WW ⟨rfl, hWW⟩))
      obtain rfl : W = WW := hWW.symm
      refine hK.out _ _ trivial (fun hHeld9 => ?_)
      clear hK KK
      refine take_at 10 (.slice ra u rc) rfl (by kernel_rfl) (by kernel_rfl) (by kernel_rfl) (fun _ _ _ h => h) (yields_slice_h (by rfl) 53 _ _ (by rfl) _ _ _ (by rfl) (by rfl) (fun V => HS5.out V)) trivial ?_
      simp only [Act.put, List.setIfInBounds_toArray, List.set_cons_zero, List.set_cons_succ]
      refine wpAnyH_ready (rs := [14]) (by kernel_rfl) (by simp) (cons_at 14 (v := .slice ea m ec) (w' := W) rfl (by rfl) (by have e0 := D6.out; go_simp) trivial ?n14x3 AllReadyH.nil)
      case n14x3 =>
        simp only [Act.put, List.setIfInBounds_toArray, List.set_cons_zero, List.set_cons_succ]
        refine take_at 16 (.slice ea n ec) rfl (by kernel_rfl) (by kernel_rfl) (by kernel_rfl) (fun _ _ _ h => h) (yields_slice_h (by rfl) 41 _ _ (by rfl) _ _ _ (by rfl) (by rfl) (fun V => HS6.out V)) trivial ?_
        simp only [Act.put, List.setIfInBounds_toArray, List.set_cons_zero, List.set_cons_succ]
        refine take_at 18 (.pointer (some ⟨q, 0, none⟩)) rfl (by kernel_rfl) (by kernel_rfl) (by kernel_rfl) (fun _ _ _ h => h) (Or.inl ⟨by rfl, ?_⟩) trivial ?_
        · intro V hSV; go_simp
        simp only [Act.put, List.setIfInBounds_toArray, List.set_cons_zero, List.set_cons_succ]
        refine take_at 19 (.pointer (some ⟨q, 5, none⟩)) rfl (by kernel_rfl) (by kernel_rfl) (by kernel_rfl) (fun _ _ _ h => h) (Or.inl ⟨by rfl, ?_⟩) trivial ?_
        · intro V hSV; go_simp
        simp only [Act.put, List.setIfInBounds_toArray, List.set_cons_zero, List.set_cons_succ]
        refine ready_store 20 rfl (by kernel_rfl) (by rfl) 53 _ _ rfl _ _ rfl rfl S5.out trivial ?_
        simp only [Act.put]
        refine take_at 21 (.pointer (some ⟨q, 0, none⟩)) rfl (by kernel_rfl) (by kernel_rfl) (by kernel_rfl) (fun _ _ _ h => h) (Or.inl ⟨by rfl, ?_⟩) trivial ?_
        · intro V hSV; go_simp
        simp only [Act.put, List.setIfInBounds_toArray, List.set_cons_zero, List.set_cons_succ]
        refine take_at 22 (.pointer (some ⟨q, 6, none⟩)) rfl (by kernel_rfl) (by kernel_rfl) (by kernel_rfl) (fun _ _ _ h => h) (Or.inl ⟨by rfl, ?_⟩) trivial ?_
        · intro V hSV; go_simp
        simp only [Act.put, List.setIfInBounds_toArray, List.set_cons_zero, List.set_cons_succ]
        refine ready_store 23 rfl (by kernel_rfl) (by rfl) 41 _ _ rfl _ _ rfl rfl S6.out trivial ?_
        simp only [Act.put]
        refine take_at 24 (.pointer (some ⟨q, 0, none⟩)) rfl (by kernel_rfl) (by kernel_rfl) (by kernel_rfl) (fun _ _ _ h => h) (Or.inl ⟨by rfl, ?_⟩) trivial ?_
        · intro V hSV; go_simp
        simp only [Act.put, List.setIfInBounds_toArray, List.set_cons_zero, List.set_cons_succ]
        refine take_at 25 (.pointer (some ⟨q, 7, none⟩)) rfl (by kernel_rfl) (by kernel_rfl) (by kernel_rfl) (fun _ _ _ h => h) (Or.inl ⟨by rfl, ?_⟩) trivial ?_
        · intro V hSV; go_simp
        simp only [Act.put, List.setIfInBounds_toArray, List.set_cons_zero, List.set_cons_succ]
        refine ready_store 26 rfl (by kernel_rfl) (by rfl) 3 _ _ rfl _ _ rfl rfl S7.out trivial ?_
        simp only [Act.put]
        refine wpAnyH_done (by kernel_rfl) ?_ _
        refine NoPanic.normal ?_
        go_wp2_with (first
          | (go_at_call 28; refine (HCl.out _ HZ.out.1).mono ?_; rintro e w3 ⟨rfl, hj3, hx3⟩
             have HF3 := Lib.hid (HFl.out _ hj3 (HZ.out.2.trans hx3))
             clear hj3 hx3)
          | (go_at_call 44; refine HF3.out.mono ?_; rintro e w4 ⟨rfl, hz⟩; have HZ2 := Lib.hid hz; clear hz)
          | fail)
        go_ret
        exact ⟨rfl, HZ2.out⟩
    case n14x2 =>
      simp only [Act.put, List.setIfInBounds_toArray, List.set_cons_zero, List.set_cons_succ]
      refine take_at 16 (.slice ea n ec) rfl (by kernel_rfl) (by kernel_rfl) (by kernel_rfl) (fun _ _ _ h => h) (yields_slice_h (by rfl) 41 _ _ (by rfl) _ _ _ (by rfl) (by rfl) (fun V => HS6.out V)) trivial ?_
      simp only [Act.put, List.setIfInBounds_toArray, List.set_cons_zero, List.set_cons_succ]
      refine wpAnyH_ready (rs := [9]) (by kernel_rfl) (by simp) (cons_op 9 rfl (fun KK hK => ?n9x4) AllReadyH.nil)
      case n9x4 =>
        go_simp
        go_wp2_with (first | (go_at_call 45; refine HE9.out.mono ?_; rintro e WW ⟨rfl, hWW⟩))
        obtain rfl : W = WW := hWW.symm
        refine hK.out _ _ trivial (fun hHeld9 => ?_)
        clear hK KK
        refine take_at 10 (.slice ra u rc) rfl (by kernel_rfl) (by kernel_rfl) (by kernel_rfl) (fun _ _ _ h => h) (yields_slice_h (by rfl) 53 _ _ (by rfl) _ _ _ (by rfl) (by rfl) (fun V => HS5.out V)) trivial ?_
        simp only [Act.put, List.setIfInBounds_toArray, List.set_cons_zero, List.set_cons_succ]
        refine take_at 18 (.pointer (some ⟨q, 0, none⟩)) rfl (by kernel_rfl) (by kernel_rfl) (by kernel_rfl) (fun _ _ _ h => h) (Or.inl ⟨by rfl, ?_⟩) trivial ?_
        · intro V hSV; go_simp
        simp only [Act.put, List.setIfInBounds_toArray, List.set_cons_zero, List.set_cons_succ]
        refine take_at 19 (.pointer (some ⟨q, 5, none⟩)) rfl (by kernel_rfl) (by kernel_rfl) (by kernel_rfl) (fun _ _ _ h => h) (Or.inl ⟨by rfl, ?_⟩) trivial ?_
        · intro V hSV; go_simp
        simp only [Act.put, List.setIfInBounds_toArray, List.set_cons_zero, List.set_cons_succ]
        refine ready_store 20 rfl (by kernel_rfl) (by rfl) 53 _ _ rfl _ _ rfl rfl S5.out trivial ?_
        simp only [Act.put]
        refine take_at 21 (.pointer (some ⟨q, 0, none⟩)) rfl (by kernel_rfl) (by kernel_rfl) (by kernel_rfl) (fun _ _ _ h => h) (Or.inl ⟨by rfl, ?_⟩) trivial ?_
        · intro V hSV; go_simp
        simp only [Act.put, List.setIfInBounds_toArray, List.set_cons_zero, List.set_cons_succ]
        refine take_at 22 (.pointer (some ⟨q, 6, none⟩)) rfl (by kernel_rfl) (by kernel_rfl) (by kernel_rfl) (fun _ _ _ h => h) (Or.inl ⟨by rfl, ?_⟩) trivial ?_
        · intro V hSV; go_simp
        simp only [Act.put, List.setIfInBounds_toArray, List.set_cons_zero, List.set_cons_succ]
        refine ready_store 23 rfl (by kernel_rfl) (by rfl) 41 _ _ rfl _ _ rfl rfl S6.out trivial ?_
        simp only [Act.put]
        refine take_at 24 (.pointer (some ⟨q, 0, none⟩)) rfl (by kernel_rfl) (by kernel_rfl) (by kernel_rfl) (fun _ _ _ h => h) (Or.inl ⟨by rfl, ?_⟩) trivial ?_
        · intro V hSV; go_simp
        simp only [Act.put, List.setIfInBounds_toArray, List.set_cons_zero, List.set_cons_succ]
        refine take_at 25 (.pointer (some ⟨q, 7, none⟩)) rfl (by kernel_rfl) (by kernel_rfl) (by kernel_rfl) (fun _ _ _ h => h) (Or.inl ⟨by rfl, ?_⟩) trivial ?_
        · intro V hSV; go_simp
        simp only [Act.put, List.setIfInBounds_toArray, List.set_cons_zero, List.set_cons_succ]
        refine ready_store 26 rfl (by kernel_rfl) (by rfl) 3 _ _ rfl _ _ rfl rfl S7.out trivial ?_
        simp only [Act.put]
        refine wpAnyH_done (by kernel_rfl) ?_ _
        refine NoPanic.normal ?_
        go_wp2_with (first
          | (go_at_call 28; refine (HCl.out _ HZ.out.1).mono ?_; rintro e w3 ⟨rfl, hj3, hx3⟩
             have HF3 := Lib.hid (HFl.out _ hj3 (HZ.out.2.trans hx3))
             clear hj3 hx3)
          | (go_at_call 44; refine HF3.out.mono ?_; rintro e w4 ⟨rfl, hz⟩; have HZ2 := Lib.hid hz; clear hz)
          | fail)
        go_ret
        exact ⟨rfl, HZ2.out⟩
  case n9x1 =>
    go_simp
    go_wp2_with (first | (go_at_call 45; refine HE9.out.mono ?_; rintro e WW ⟨rfl, hWW⟩))
    obtain rfl : W = WW := hWW.symm
    refine hK.out _ _ trivial (fun hHeld9 => ?_)
    clear hK KK
    refine wpAnyH_ready (rs := [6, 14]) (by kernel_rfl) (by simp) (cons_at 6 (v := .slice ra L rc) (w' := W) rfl (by rfl) (by have e0 := D5.out; go_simp) trivial ?n6x5 (cons_at 14 (v := .slice ea m ec) (w' := W) rfl (by rfl) (by have e0 := D6.out; go_simp) trivial ?n14x5 AllReadyH.nil))
    case n6x5 =>
      simp only [Act.put, List.setIfInBounds_toArray, List.set_cons_zero, List.set_cons_succ]
      refine take_at 10 (.slice ra u rc) rfl (by kernel_rfl) (by kernel_rfl) (by kernel_rfl) (fun _ _ _ h => h) (yields_slice_h (by rfl) 53 _ _ (by rfl) _ _ _ (by rfl) (by rfl) (fun V => HS5.out V)) trivial ?_
      simp only [Act.put, List.setIfInBounds_toArray, List.set_cons_zero, List.set_cons_succ]
      refine wpAnyH_ready (rs := [14]) (by kernel_rfl) (by simp) (cons_at 14 (v := .slice ea m ec) (w' := W) rfl (by rfl) (by have e0 := D6.out; go_simp) trivial ?n14x6 AllReadyH.nil)
      case n14x6 =>
        simp only [Act.put, List.setIfInBounds_toArray, List.set_cons_zero, List.set_cons_succ]
        refine take_at 16 (.slice ea n ec) rfl (by kernel_rfl) (by kernel_rfl) (by kernel_rfl) (fun _ _ _ h => h) (yields_slice_h (by rfl) 41 _ _ (by rfl) _ _ _ (by rfl) (by rfl) (fun V => HS6.out V)) trivial ?_
        simp only [Act.put, List.setIfInBounds_toArray, List.set_cons_zero, List.set_cons_succ]
        refine take_at 18 (.pointer (some ⟨q, 0, none⟩)) rfl (by kernel_rfl) (by kernel_rfl) (by kernel_rfl) (fun _ _ _ h => h) (Or.inl ⟨by rfl, ?_⟩) trivial ?_
        · intro V hSV; go_simp
        simp only [Act.put, List.setIfInBounds_toArray, List.set_cons_zero, List.set_cons_succ]
        refine take_at 19 (.pointer (some ⟨q, 5, none⟩)) rfl (by kernel_rfl) (by kernel_rfl) (by kernel_rfl) (fun _ _ _ h => h) (Or.inl ⟨by rfl, ?_⟩) trivial ?_
        · intro V hSV; go_simp
        simp only [Act.put, List.setIfInBounds_toArray, List.set_cons_zero, List.set_cons_succ]
        refine ready_store 20 rfl (by kernel_rfl) (by rfl) 53 _ _ rfl _ _ rfl rfl S5.out trivial ?_
        simp only [Act.put]
        refine take_at 21 (.pointer (some ⟨q, 0, none⟩)) rfl (by kernel_rfl) (by kernel_rfl) (by kernel_rfl) (fun _ _ _ h => h) (Or.inl ⟨by rfl, ?_⟩) trivial ?_
        · intro V hSV; go_simp
        simp only [Act.put, List.setIfInBounds_toArray, List.set_cons_zero, List.set_cons_succ]
        refine take_at 22 (.pointer (some ⟨q, 6, none⟩)) rfl (by kernel_rfl) (by kernel_rfl) (by kernel_rfl) (fun _ _ _ h => h) (Or.inl ⟨by rfl, ?_⟩) trivial ?_
        · intro V hSV; go_simp
        simp only [Act.put, List.setIfInBounds_toArray, List.set_cons_zero, List.set_cons_succ]
        refine ready_store 23 rfl (by kernel_rfl) (by rfl) 41 _ _ rfl _ _ rfl rfl S6.out trivial ?_
        simp only [Act.put]
        refine take_at 24 (.pointer (some ⟨q, 0, none⟩)) rfl (by kernel_rfl) (by kernel_rfl) (by kernel_rfl) (fun _ _ _ h => h) (Or.inl ⟨by rfl, ?_⟩) trivial ?_
        · intro V hSV; go_simp
        simp only [Act.put, List.setIfInBounds_toArray, List.set_cons_zero, List.set_cons_succ]
        refine take_at 25 (.pointer (some ⟨q, 7, none⟩)) rfl (by kernel_rfl) (by kernel_rfl) (by kernel_rfl) (fun _ _ _ h => h) (Or.inl ⟨by rfl, ?_⟩) trivial ?_
        · intro V hSV; go_simp
        simp only [Act.put, List.setIfInBounds_toArray, List.set_cons_zero, List.set_cons_succ]
        refine ready_store 26 rfl (by kernel_rfl) (by rfl) 3 _ _ rfl _ _ rfl rfl S7.out trivial ?_
        simp only [Act.put]
        refine wpAnyH_done (by kernel_rfl) ?_ _
        refine NoPanic.normal ?_
        go_wp2_with (first
          | (go_at_call 28; refine (HCl.out _ HZ.out.1).mono ?_; rintro e w3 ⟨rfl, hj3, hx3⟩
             have HF3 := Lib.hid (HFl.out _ hj3 (HZ.out.2.trans hx3))
             clear hj3 hx3)
          | (go_at_call 44; refine HF3.out.mono ?_; rintro e w4 ⟨rfl, hz⟩; have HZ2 := Lib.hid hz; clear hz)
          | fail)
        go_ret
        exact ⟨rfl, HZ2.out⟩
    case n14x5 =>
      simp only [Act.put, List.setIfInBounds_toArray, List.set_cons_zero, List.set_cons_succ]
      refine take_at 16 (.slice ea n ec) rfl (by kernel_rfl) (by kernel_rfl) (by kernel_rfl) (fun _ _ _ h => h) (yields_slice_h (by rfl) 41 _ _ (by rfl) _ _ _ (by rfl) (by rfl) (fun V => HS6.out V)) trivial ?_
      simp only [Act.put, List.setIfInBounds_toArray, List.set_cons_zero, List.set_cons_succ]
      refine wpAnyH_ready (rs := [6]) (by kernel_rfl) (by simp) (cons_at 6 (v := .slice ra L rc) (w' := W) rfl (by rfl) (by have e0 := D5.out; go_simp) trivial ?n6x7 AllReadyH.nil)
      case n6x7 =>
        simp only [Act.put, List.setIfInBounds_toArray, List.set_cons_zero, List.set_cons_succ]
        refine take_at 10 (.slice ra u rc) rfl (by kernel_rfl) (by kernel_rfl) (by kernel_rfl) (fun _ _ _ h => h) (yields_slice_h (by rfl) 53 _ _ (by rfl) _ _ _ (by rfl) (by rfl) (fun V => HS5.out V)) trivial ?_
        simp only [Act.put, List.setIfInBounds_toArray, List.set_cons_zero, List.set_cons_succ]
        refine take_at 18 (.pointer (some ⟨q, 0, none⟩)) rfl (by kernel_rfl) (by kernel_rfl) (by kernel_rfl) (fun _ _ _ h => h) (Or.inl ⟨by rfl, ?_⟩) trivial ?_
        · intro V hSV; go_simp
        simp only [Act.put, List.setIfInBounds_toArray, List.set_cons_zero, List.set_cons_succ]
        refine take_at 19 (.pointer (some ⟨q, 5, none⟩)) rfl (by kernel_rfl) (by kernel_rfl) (by kernel_rfl) (fun _ _ _ h => h) (Or.inl ⟨by rfl, ?_⟩) trivial ?_
        · intro V hSV; go_simp
        simp only [Act.put, List.setIfInBounds_toArray, List.set_cons_zero, List.set_cons_succ]
        refine ready_store 20 rfl (by kernel_rfl) (by rfl) 53 _ _ rfl _ _ rfl rfl S5.out trivial ?_
        simp only [Act.put]
        refine take_at 21 (.pointer (some ⟨q, 0, none⟩)) rfl (by kernel_rfl) (by kernel_rfl) (by kernel_rfl) (fun _ _ _ h => h) (Or.inl ⟨by rfl, ?_⟩) trivial ?_
        · intro V hSV; go_simp
        simp only [Act.put, List.setIfInBounds_toArray, List.set_cons_zero, List.set_cons_succ]
        refine take_at 22 (.pointer (some ⟨q, 6, none⟩)) rfl (by kernel_rfl) (by kernel_rfl) (by kernel_rfl) (fun _ _ _ h => h) (Or.inl ⟨by rfl, ?_⟩) trivial ?_
        · intro V hSV; go_simp
        simp only [Act.put, List.setIfInBounds_toArray, List.set_cons_zero, List.set_cons_succ]
        refine ready_store 23 rfl (by kernel_rfl) (by rfl) 41 _ _ rfl _ _ rfl rfl S6.out trivial ?_
        simp only [Act.put]
        refine take_at 24 (.pointer (some ⟨q, 0, none⟩)) rfl (by kernel_rfl) (by kernel_rfl) (by kernel_rfl) (fun _ _ _ h => h) (Or.inl ⟨by rfl, ?_⟩) trivial ?_
        · intro V hSV; go_simp
        simp only [Act.put, List.setIfInBounds_toArray, List.set_cons_zero, List.set_cons_succ]
        refine take_at 25 (.pointer (some ⟨q, 7, none⟩)) rfl (by kernel_rfl) (by kernel_rfl) (by kernel_rfl) (fun _ _ _ h => h) (Or.inl ⟨by rfl, ?_⟩) trivial ?_
        · intro V hSV; go_simp
        simp only [Act.put, List.setIfInBounds_toArray, List.set_cons_zero, List.set_cons_succ]
        refine ready_store 26 rfl (by kernel_rfl) (by rfl) 3 _ _ rfl _ _ rfl rfl S7.out trivial ?_
        simp only [Act.put]
        refine wpAnyH_done (by kernel_rfl) ?_ _
        refine NoPanic.normal ?_
        go_wp2_with (first
          | (go_at_call 28; refine (HCl.out _ HZ.out.1).mono ?_; rintro e w3 ⟨rfl, hj3, hx3⟩
             have HF3 := Lib.hid (HFl.out _ hj3 (HZ.out.2.trans hx3))
             clear hj3 hx3)
          | (go_at_call 44; refine HF3.out.mono ?_; rintro e w4 ⟨rfl, hz⟩; have HZ2 := Lib.hid hz; clear hz)
          | fail)
        go_ret
        exact ⟨rfl, HZ2.out⟩
  case n14x1 =>
    simp only [Act.put, List.setIfInBounds_toArray, List.set_cons_zero, List.set_cons_succ]
    refine take_at 16 (.slice ea n ec) rfl (by kernel_rfl) (by kernel_rfl) (by kernel_rfl) (fun _ _ _ h => h) (yields_slice_h (by rfl) 41 _ _ (by rfl) _ _ _ (by rfl) (by rfl) (fun V => HS6.out V)) trivial ?_
    simp only [Act.put, List.setIfInBounds_toArray, List.set_cons_zero, List.set_cons_succ]
    refine wpAnyH_ready (rs := [6, 9]) (by kernel_rfl) (by simp) (cons_at 6 (v := .slice ra L rc) (w' := W) rfl (by rfl) (by have e0 := D5.out; go_simp) trivial ?n6x8 (cons_op 9 rfl (fun KK hK => ?n9x8) AllReadyH.nil))
    case n6x8 =>
      simp only [Act.put, List.setIfInBounds_toArray, List.set_cons_zero, List.set_cons_succ]
      refine wpAnyH_ready (rs := [9]) (by kernel_rfl) (by simp) (cons_op 9 rfl (fun KK hK => ?n9x9) AllReadyH.nil)
      case n9x9 =>
        go_simp
        go_wp2_with (first | (go_at_call 45; refine HE9.out.mono ?_; rintro e WW ⟨rfl, hWW⟩))
        obtain rfl : W = WW := hWW.symm
        refine hK.out _ _ trivial (fun hHeld9 => ?_)
        clear hK KK
        refine take_at 10 (.slice ra u rc) rfl (by kernel_rfl) (by kernel_rfl) (by kernel_rfl) (fun _ _ _ h => h) (yields_slice_h (by rfl) 53 _ _ (by rfl) _ _ _ (by rfl) (by rfl) (fun V => HS5.out V)) trivial ?_
        simp only [Act.put, List.setIfInBounds_toArray, List.set_cons_zero, List.set_cons_succ]
        refine take_at 18 (.pointer (some ⟨q, 0, none⟩)) rfl (by kernel_rfl) (by kernel_rfl) (by kernel_rfl) (fun _ _ _ h => h) (Or.inl ⟨by rfl, ?_⟩) trivial ?_
        · intro V hSV; go_simp
        simp only [Act.put, List.setIfInBounds_toArray, List.set_cons_zero, List.set_cons_succ]
        refine take_at 19 (.pointer (some ⟨q, 5, none⟩)) rfl (by kernel_rfl) (by kernel_rfl) (by kernel_rfl) (fun _ _ _ h => h) (Or.inl ⟨by rfl, ?_⟩) trivial ?_
        · intro V hSV; go_simp
        simp only [Act.put, List.setIfInBounds_toArray, List.set_cons_zero, List.set_cons_succ]
        refine ready_store 20 rfl (by kernel_rfl) (by rfl) 53 _ _ rfl _ _ rfl rfl S5.out trivial ?_
        simp only [Act.put]
        refine take_at 21 (.pointer (some ⟨q, 0, none⟩)) rfl (by kernel_rfl) (by kernel_rfl) (by kernel_rfl) (fun _ _ _ h => h) (Or.inl ⟨by rfl, ?_⟩) trivial ?_
        · intro V hSV; go_simp
        simp only [Act.put, List.setIfInBounds_toArray, List.set_cons_zero, List.set_cons_succ]
        refine take_at 22 (.pointer (some ⟨q, 6, none⟩)) rfl (by kernel_rfl) (by kernel_rfl) (by kernel_rfl) (fun _ _ _ h => h) (Or.inl ⟨by rfl, ?_⟩) trivial ?_
        · intro V hSV; go_simp
        simp only [Act.put, List.setIfInBounds_toArray, List.set_cons_zero, List.set_cons_succ]
        refine ready_store 23 rfl (by kernel_rfl) (by rfl) 41 _ _ rfl _ _ rfl rfl S6.out trivial ?_
        simp only [Act.put]
        refine take_at 24 (.pointer (some ⟨q, 0, none⟩)) rfl (by kernel_rfl) (by kernel_rfl) (by kernel_rfl) (fun _ _ _ h => h) (Or.inl ⟨by rfl, ?_⟩) trivial ?_
        · intro V hSV; go_simp
        simp only [Act.put, List.setIfInBounds_toArray, List.set_cons_zero, List.set_cons_succ]
        refine take_at 25 (.pointer (some ⟨q, 7, none⟩)) rfl (by kernel_rfl) (by kernel_rfl) (by kernel_rfl) (fun _ _ _ h => h) (Or.inl ⟨by rfl, ?_⟩) trivial ?_
        · intro V hSV; go_simp
        simp only [Act.put, List.setIfInBounds_toArray, List.set_cons_zero, List.set_cons_succ]
        refine ready_store 26 rfl (by kernel_rfl) (by rfl) 3 _ _ rfl _ _ rfl rfl S7.out trivial ?_
        simp only [Act.put]
        refine wpAnyH_done (by kernel_rfl) ?_ _
        refine NoPanic.normal ?_
        go_wp2_with (first
          | (go_at_call 28; refine (HCl.out _ HZ.out.1).mono ?_; rintro e w3 ⟨rfl, hj3, hx3⟩
             have HF3 := Lib.hid (HFl.out _ hj3 (HZ.out.2.trans hx3))
             clear hj3 hx3)
          | (go_at_call 44; refine HF3.out.mono ?_; rintro e w4 ⟨rfl, hz⟩; have HZ2 := Lib.hid hz; clear hz)
          | fail)
        go_ret
        exact ⟨rfl, HZ2.out⟩
    case n9x8 =>
      go_simp
      go_wp2_with (first | (go_at_call 45; refine HE9.out.mono ?_; rintro e WW ⟨rfl, hWW⟩))
      obtain rfl : W = WW := hWW.symm
      refine hK.out _ _ trivial (fun hHeld9 => ?_)
      clear hK KK
      refine wpAnyH_ready (rs := [6]) (by kernel_rfl) (by simp) (cons_at 6 (v := .slice ra L rc) (w' := W) rfl (by rfl) (by have e0 := D5.out; go_simp) trivial ?n6x10 AllReadyH.nil)
      case n6x10 =>
        simp only [Act.put, List.setIfInBounds_toArray, List.set_cons_zero, List.set_cons_succ]
        refine take_at 10 (.slice ra u rc) rfl (by kernel_rfl) (by kernel_rfl) (by kernel_rfl) (fun _ _ _ h => h) (yields_slice_h (by rfl) 53 _ _ (by rfl) _ _ _ (by rfl) (by rfl) (fun V => HS5.out V)) trivial ?_
        simp only [Act.put, List.setIfInBounds_toArray, List.set_cons_zero, List.set_cons_succ]
        refine take_at 18 (.pointer (some ⟨q, 0, none⟩)) rfl (by kernel_rfl) (by kernel_rfl) (by kernel_rfl) (fun _ _ _ h => h) (Or.inl ⟨by rfl, ?_⟩) trivial ?_
        · intro V hSV; go_simp
        simp only [Act.put, List.setIfInBounds_toArray, List.set_cons_zero, List.set_cons_succ]
        refine take_at 19 (.pointer (some ⟨q, 5, none⟩)) rfl (by kernel_rfl) (by kernel_rfl) (by kernel_rfl) (fun _ _ _ h => h) (Or.inl ⟨by rfl, ?_⟩) trivial ?_
        · intro V hSV; go_simp
        simp only [Act.put, List.setIfInBounds_toArray, List.set_cons_zero, List.set_cons_succ]
        refine ready_store 20 rfl (by kernel_rfl) (by rfl) 53 _ _ rfl _ _ rfl rfl S5.out trivial ?_
        simp only [Act.put]
        refine take_at 21 (.pointer (some ⟨q, 0, none⟩)) rfl (by kernel_rfl) (by kernel_rfl) (by kernel_rfl) (fun _ _ _ h => h) (Or.inl ⟨by rfl, ?_⟩) trivial ?_
        · intro V hSV; go_simp
        simp only [Act.put, List.setIfInBounds_toArray, List.set_cons_zero, List.set_cons_succ]
        refine take_at 22 (.pointer (some ⟨q, 6, none⟩)) rfl (by kernel_rfl) (by kernel_rfl) (by kernel_rfl) (fun _ _ _ h => h) (Or.inl ⟨by rfl, ?_⟩) trivial ?_
        · intro V hSV; go_simp
        simp only [Act.put, List.setIfInBounds_toArray, List.set_cons_zero, List.set_cons_succ]
        refine ready_store 23 rfl (by kernel_rfl) (by rfl) 41 _ _ rfl _ _ rfl rfl S6.out trivial ?_
        simp only [Act.put]
        refine take_at 24 (.pointer (some ⟨q, 0, none⟩)) rfl (by kernel_rfl) (by kernel_rfl) (by kernel_rfl) (fun _ _ _ h => h) (Or.inl ⟨by rfl, ?_⟩) trivial ?_
        · intro V hSV; go_simp
        simp only [Act.put, List.setIfInBounds_toArray, List.set_cons_zero, List.set_cons_succ]
        refine take_at 25 (.pointer (some ⟨q, 7, none⟩)) rfl (by kernel_rfl) (by kernel_rfl) (by kernel_rfl) (fun _ _ _ h => h) (Or.inl ⟨by rfl, ?_⟩) trivial ?_
        · intro V hSV; go_simp
        simp only [Act.put, List.setIfInBounds_toArray, List.set_cons_zero, List.set_cons_succ]
        refine ready_store 26 rfl (by kernel_rfl) (by rfl) 3 _ _ rfl _ _ rfl rfl S7.out trivial ?_
        simp only [Act.put]
        refine wpAnyH_done (by kernel_rfl) ?_ _
        refine NoPanic.normal ?_
        go_wp2_with (first
          | (go_at_call 28; refine (HCl.out _ HZ.out.1).mono ?_; rintro e w3 ⟨rfl, hj3, hx3⟩
             have HF3 := Lib.hid (HFl.out _ hj3 (HZ.out.2.trans hx3))
             clear hj3 hx3)
          | (go_at_call 44; refine HF3.out.mono ?_; rintro e w4 ⟨rfl, hz⟩; have HZ2 := Lib.hid hz; clear hz)
          | fail)
        go_ret
        exact ⟨rfl, HZ2.out⟩
theorem jcut_ {w : World} {base p aa bb q : Nat} {d : Dev} {K : Nat} {J : Jr} {rv ev : Value} (h : Jn w base p aa bb q d K J rv ev) (hK : K + J.a.s.toNat < 1000000) (n : Int) (hcr : J.dead = 0 → d.crashed = false) (hin : inJ d J.a) :
    Calls Tryz.prog 21 #[.pointer (some ⟨q, 0, none⟩), .int .i64 n] w fun e w' => e = .returned (errV (cutE d J n)) ∧ JnTo w base p aa bb q rv ev (cutD d J n) (K + J.a.s.toNat) (cutJ d J n) w' := by
  by_cases hd : J.dead = 0
  · by_cases hb : cutBad J n
    · exact jcut_no h hK n (.inr hb)
    · have hd' : ¬ J.dead ≠ 0 := fun e => e hd
      have e1 : cutE d J n = cleanE J.a (allB J.ep (J.pss.take n.toNat)) d := by unfold cutE; rw [if_neg hd', if_neg hb]
      have e2 : cutD d J n = cleanD J.a (allB J.ep (J.pss.take n.toNat)) d := by unfold cutD; rw [if_neg hd', if_neg hb]
      have e3 : cutJ d J n = ⟨J.a, J.ep, J.pss.take n.toNat, n.toNat, cleanE J.a (allB J.ep (J.pss.take n.toNat)) d⟩ := by unfold cutJ; rw [if_neg hd', if_neg hb]
      rw [e1, e2, e3]
      unfold cutBad at hb
      obtain ⟨m, rfl⟩ : ∃ m : Nat, n = (m : Int) := ⟨n.toNat, by omega⟩
      rw [Int.toNat_natCast]
      exact jcut_ok h hK m hd (by omega) (by omega) (hcr hd) hin
  · exact jcut_no h hK n (.inl hd)
end Go.Proofs.YtjnhcanohefjiaaGreatDoor
