/- The walk of the document's Merge. -/
import Derived.Test.YtnkdhipeklphaaaHTx
import Derived.OwnWalk
namespace Go.Proofs.Ytnkdhipeklphaaa
open Go.RowKit Go.Sort

/-- A row of a type, told by place. -/
def RowK (t : TypeId) (w : World) (R n : Nat) (f : Nat → Value) : Prop := ∃ c, w.heap[R]? = some (.cells c t (0, 0)) ∧ c.size = n ∧ ∀ i, i < n → c[i]? = some (f i)
theorem RowK.cell {t : TypeId} {w : World} {R n i : Nat} {f : Nat → Value} (h : RowK t w R n f) (hi : i < n) : w.cell? ⟨R, i, none⟩ = some (f i) ∧ w.frozen? ⟨R, i, none⟩ = false := by
  obtain ⟨c, h1, _, h3⟩ := h
  exact ⟨cell_of h1 (h3 i hi), frozen_of h1⟩
theorem RowK.on {t : TypeId} {w w' : World} {R n : Nat} {f : Nat → Value} (h : RowK t w R n f) (hb : Below w.heap.size w w') : RowK t w' R n f := by
  obtain ⟨c, h1, h2⟩ := h
  exact ⟨c, (hb.block R (blk_lt h1)).trans h1, h2⟩
theorem RowK.below {t : TypeId} {w w' : World} {R n B : Nat} {f : Nat → Value} (h : RowK t w R n f) (hb : Below B w w') (hR : R < B) : RowK t w' R n f := by
  obtain ⟨c, h1, h2⟩ := h
  exact ⟨c, (hb.block R hR).trans h1, h2⟩
theorem RowK.set {t : TypeId} {w : World} {R n : Nat} {f : Nat → Value} (h : RowK t w R n f) (i : Nat) (v : Value) : RowK t (w.setCell ⟨R, i, none⟩ v) R n (updF f i v) := by
  obtain ⟨c, h1, h2, h3⟩ := h
  refine ⟨c.setIfInBounds i v, heap_set v h1, by simpa using h2, fun j hj => ?_⟩
  by_cases e : j = i
  · subst e
    rw [updF_at, Array.getElem?_setIfInBounds_self_of_lt (by omega)]
  · rw [updF_old e, Array.getElem?_setIfInBounds_ne (fun h => e h.symm)]
    exact h3 j hj
theorem RowK.made {t : TypeId} {w : World} {base R n : Nat} {z : Value} (h : w.ownsRow base t 1 (.slice (some ⟨R, 0, none⟩) n n) n (madeCells #[z] n).toList) : RowK t w R n (fun _ => z) := by
  obtain ⟨h1, h2⟩ := h
  rcases h2 with ⟨h2, _⟩ | ⟨g, cap, cur, e, _, hg, h3, h4, h5, h6⟩
  · cases h2
  · cases e
    refine ⟨cur, hg, by simpa using h5, fun i hi => ?_⟩
    have hsz : cur.size = n := by simpa using h5
    have : cur.toList[i]? = (cur.toList.take (n * 1))[i]? := by rw [List.getElem?_take_of_lt (by omega)]
    rw [← Array.getElem?_toList, this, h6]
    simp [madeCells, hi, Nat.mod_one]
/-- The same, in a region that draws its order. -/
theorem step_append_texts (N : Nat) (w w0 : World) {ops : Array Oper} {o : Oper} {act : Act} {K : Act → World → Prop} {Q : Exit → Act → World → Prop} {E : Prop} (hgd : o.guard = none) (s x : Operand)
    (ho : o.op = .call { callee := .builtin .append, args := #[s, x], argTypes := #[23, 23] }) (v : Value) (es ys : List ByteArray) (hs : act.eval s = v) (hown : OwnT w N v es)
    (a : Option Addr) (m c : Nat) (hx : act.eval x = .slice a m c) (hm : ys.length = m) (hnil : a = none → c = 0) (hin : Tx w a ys) (hlen : es.length + ys.length ≤ 4000000) (hN : N ≤ w0.heap.size) (hb : Below N w0 w)
    (hK : ∀ v' w', OwnT w' N v' (es ++ ys) → Below N w0 w' → K (act.put o.dst v') w') : if Region.wanted o (yielded ops act.tmps) = true then Oper.wp Try.prog o act w K Q else E := by
  have hw : Region.wanted o (yielded ops act.tmps) = true := by simp [Region.wanted, hgd]
  rw [if_pos hw]
  exact wp_append_texts w s x ho N v es ys hs hown a m c hx hm hnil hin hlen (Nat.le_trans hN hb.size) fun v' w' h1 h2 => hK v' w' h1 (below_ownT hN hb hown h2)
/-- Lists behind a slice. -/
def LsAt (w : World) (a : Option Addr) (n : Nat) (f : Nat → Value) : Prop := ∀ i, i < n → ∃ b o, a = some ⟨b, o, none⟩ ∧ w.cell? ⟨b, o + i, none⟩ = some (f i)
theorem LsAt.on {w w' : World} {a : Option Addr} {n : Nat} {f : Nat → Value} (h : LsAt w a n f) (hb : Below w.heap.size w w') : LsAt w' a n f := by
  intro i hi
  obtain ⟨b, o, e, h1⟩ := h i hi
  exact ⟨b, o, e, (hb.cell (block_lt_of_cell h1)).trans h1⟩
/-- The one that comes first among those ahead of a place. -/
def Best (cur : Nat → List ByteArray) (i : Nat) (z : Int) : Prop := (z = -1 ∧ ∀ j, j < i → cur j = []) ∨ ∃ b s t, b < i ∧ z = (b : Int) ∧ cur b = s :: t ∧ ∀ j s' t', j < i → cur j = s' :: t' → Ahead s b s' j
theorem best_skip {cur : Nat → List ByteArray} {i : Nat} {z : Int} (h : Best cur i z) (e : cur i = []) : Best cur (i + 1) z := by
  rcases h with ⟨h1, h2⟩ | ⟨b, s, t, h1, h2, h3, h4⟩
  · refine .inl ⟨h1, fun j hj => ?_⟩
    by_cases k : j = i
    · rw [k, e]
    · exact h2 j (by omega)
  · refine .inr ⟨b, s, t, by omega, h2, h3, fun j s' t' hj ej => ?_⟩
    by_cases k : j = i
    · rw [k, e] at ej; cases ej
    · exact h4 j s' t' (by omega) ej
theorem best_none {cur : Nat → List ByteArray} {i : Nat} {s : ByteArray} {t : List ByteArray} (h : Best cur i (-1)) (e : cur i = s :: t) : Best cur (i + 1) (i : Int) := by
  rcases h with ⟨_, h2⟩ | ⟨b, _, _, _, h2, _⟩
  · refine .inr ⟨i, s, t, by omega, rfl, e, fun j s' t' hj ej => ?_⟩
    by_cases k : j = i
    · subst k; rw [e] at ej; cases ej; exact .inr ⟨rfl, Nat.le_refl _⟩
    · rw [h2 j (by omega)] at ej; cases ej
  · omega
theorem best_less {cur : Nat → List ByteArray} {i b : Nat} {s s2 : ByteArray} {t t2 : List ByteArray} (h : Best cur i (b : Int)) (e : cur i = s :: t) (eb : cur b = s2 :: t2) (hl : Op.bytesLess s.toList s2.toList = true) : Best cur (i + 1) (i : Int) := by
  rcases h with ⟨h1, _⟩ | ⟨b', s', t', h1, h2, h3, h4⟩
  · omega
  · obtain rfl : b' = b := by omega
    rw [eb] at h3
    cases h3
    refine .inr ⟨i, s, t, by omega, rfl, e, fun j s' t' hj ej => ?_⟩
    by_cases k : j = i
    · subst k; rw [e] at ej; cases ej; exact .inr ⟨rfl, Nat.le_refl _⟩
    · rcases h4 j s' t' (by omega) ej with h5 | ⟨h5, _⟩
      · exact .inl (less_trans _ _ _ hl h5)
      · exact .inl (by rw [← h5]; exact hl)
theorem best_more {cur : Nat → List ByteArray} {i b : Nat} {s s2 : ByteArray} {t t2 : List ByteArray} (h : Best cur i (b : Int)) (e : cur i = s :: t) (eb : cur b = s2 :: t2) (hl : Op.bytesLess s.toList s2.toList = false) : Best cur (i + 1) (b : Int) := by
  rcases h with ⟨h1, _⟩ | ⟨b', s', t', h1, h2, h3, h4⟩
  · omega
  · obtain rfl : b' = b := by omega
    rw [eb] at h3
    cases h3
    refine .inr ⟨b', s2, t2, by omega, rfl, eb, fun j s' t' hj ej => ?_⟩
    by_cases k : j = i
    · subst k
      rw [e] at ej; cases ej
      by_cases h6 : Op.bytesLess s2.toList s.toList = true
      · exact .inl h6
      · exact .inr ⟨less_total _ _ (by simpa using h6) hl, by omega⟩
    · exact h4 j s' t' (by omega) ej
/-- What a list has from a place on. -/
theorem drop_cons {l : List ByteArray} {k : Nat} {s : ByteArray} {t : List ByteArray} (h : l.drop k = s :: t) : k < l.length ∧ l.getD k ⟨#[]⟩ = s ∧ l.drop (k + 1) = t := by
  have hk : k < l.length := by
    rcases Nat.lt_or_ge k l.length with h1 | h1
    · exact h1
    · rw [List.drop_eq_nil_of_le h1] at h; cases h
  rw [List.drop_eq_getElem_cons hk] at h
  simp only [List.cons.injEq] at h
  exact ⟨hk, by simp [List.getD_eq_getElem?_getD, List.getElem?_eq_getElem hk, h.1], h.2⟩
theorem drop_nil_ge {l : List ByteArray} {k : Nat} (h : l.drop k = []) : l.length ≤ k := List.drop_eq_nil_iff.1 h
/-- Whose text it is, and where it lies. -/
theorem text_at {w : World} {v : Value} {l : List ByteArray} {k : Nat} {s : ByteArray} {t : List ByteArray} (h : TxS w v l) (e : l.drop k = s :: t) : ∃ b o c, v = .slice (some ⟨b, o, none⟩) l.length c ∧ w.cell? ⟨b, o + k, none⟩ = some (.string s) ∧ k < l.length := by
  obtain ⟨a, c, e1, h1, _⟩ := h
  obtain ⟨hk, hs, _⟩ := drop_cons e
  obtain ⟨b, o, rfl, h2⟩ := h1 k hk
  exact ⟨b, o, c, e1, by rw [h2]; simp only [hs], hk⟩
set_option maxRecDepth 100000 in
set_option maxHeartbeats 4000000 in
theorem rmerge_ (a : Option Addr) (n c : Nat) (f : Nat → Value) (cur0 : Nat → List ByteArray) (w : World) (hn : n ≤ 1000) (hc : LsAt w a n f) (ht : ∀ i, i < n → TxS w (f i) (cur0 i)) (htot : tot cur0 n ≤ 2000000) (hone : ∀ i, i < n → (cur0 i).length ≤ 2000000) :
    Calls Try.prog 9 #[.slice a n c] w fun e w' => (∃ v out, e = .returned v ∧ OwnT w' w.heap.size v out ∧ Mg n cur0 out) ∧ Below w.heap.size w w' := by
  have HC := Lib.hid hc
  have HT := Lib.hid ht
  have HTOT := Lib.hid htot
  have HONE := Lib.hid hone
  obtain ⟨i0, hi, hz0, hz1, hz2⟩ := info_parts info3
  clear hc ht htot hone
  go_enter Try.func9, Try.ntmps9
  go_wp2_with (first
    | (at_make; refine wpList_make_full _ rfl _ _ 26 rfl w.heap.size 3 i0 (.int .i64 0) 1 Try.underlying26 hi hz0 hz1 .i64 .i64 _ _ n rfl rfl rfl rfl (by rw [hz2]; omega) (by unfold maxLen; omega) (Nat.le_refl _) ?_)
    | fail)
  intro w1 hown1 hg1
  have hrow1 : RowK 3 w1 w.heap.size n (fun _ => .int .i64 0) := RowK.made hown1
  have hb1 : Below w.heap.size w w1 := (Below.refl _ _).grown hg1 (Nat.le_refl _) (fun k hk => by cases hk)
  obtain ⟨R, hR⟩ : ∃ R, R = w.heap.size := ⟨_, rfl⟩
  obtain ⟨B0, hB0⟩ : ∃ B0, B0 = w1.heap.size := ⟨_, rfl⟩
  rw [← hR] at hrow1
  have hRB : R < B0 := by obtain ⟨cc, k1, _⟩ := hrow1; rw [hB0]; exact blk_lt k1
  have hB0w : w.heap.size ≤ B0 := by omega
  have hRw : w.heap.size ≤ R := by omega
  have HS : Hid (∃ (cur : Nat → List ByteArray) (dn : List ByteArray) (at_ : Nat → Nat), tot cur n + 1 ≤ tot cur0 n + 1 ∧ OwnT w1 B0 (.slice none 0 0) dn ∧ RowK 3 w1 R n (fun i => .int .i64 (at_ i)) ∧ (∀ i, i < n → cur i = (cur0 i).drop (at_ i) ∧ at_ i ≤ (cur0 i).length) ∧ (∀ o, Mg n cur o → Mg n cur0 (dn ++ o)) ∧ dn.length + tot cur n = tot cur0 n ∧ Below w.heap.size w w1 ∧ B0 ≤ w1.heap.size) :=
    ⟨cur0, [], fun _ => 0, Nat.le_refl _, ownT_nil _ _, hrow1, fun i _ => ⟨by simp, Nat.zero_le _⟩, fun o h => h, by simp, hb1, Nat.le_of_eq hB0⟩
  rw [← hR]
  clear hown1 hg1 hrow1 hb1 hB0 hR
  go_wp2_with fail
  go_loopg [4] (tot cur0 n + 1) (fun g ov wq => ∃ (cur : Nat → List ByteArray) (dn : List ByteArray) (at_ : Nat → Nat), tot cur n + 1 ≤ g ∧ Hid (OwnT wq B0 ov dn ∧ RowK 3 wq R n (fun i => .int .i64 (at_ i)) ∧ (∀ i, i < n → cur i = (cur0 i).drop (at_ i) ∧ at_ i ≤ (cur0 i).length) ∧ (∀ o, Mg n cur o → Mg n cur0 (dn ++ o)) ∧ dn.length + tot cur n = tot cur0 n ∧ Below w.heap.size w wq ∧ B0 ≤ wq.heap.size))
  case atStart =>
    obtain ⟨cur, dn, at_, k1, k2⟩ := HS.out
    exact ⟨cur, dn, at_, k1, k2⟩
  case round =>
    obtain ⟨cur, dn, at_, hg, H⟩ := hrel
    clear HS
    obtain ⟨hown, hrow, hcur, hmg, hdl, hbw, hBs⟩ := H.out
    have HH := Lib.hid H.out
    clear H
    have HROW := Lib.hid hrow
    have HCUR := Lib.hid hcur
    have HBW := Lib.hid hbw
    clear hown hrow hcur hmg hdl hbw
    generalize wr = WQ at *
    go_wp2_with fail
    go_loopw [5, 6] (fun bv iv wi => ∃ (i : Nat) (z : Int), i ≤ n ∧ iv = .int .i64 i ∧ bv = .int .i64 z ∧ Hid (Best cur i z ∧ Below WQ.heap.size WQ wi)) (fun _ iv _ => n - (intOf iv).toNat)
    case atStart => exact ⟨0, -1, Nat.zero_le _, rfl, rfl, .inl ⟨rfl, fun j hj => by omega⟩, Below.refl _ _⟩
    case round =>
      obtain ⟨i, z, hi, rfl, rfl, H⟩ := hrel
      by_cases hlt : i < n
      · have hlt2 : (i : Int) < (n : Int) := by omega
        obtain ⟨hbest, hbi⟩ := H.out
        have HBI := Lib.hid hbi
        have hbwi := below_step HBW.out hbi
        obtain ⟨bl, ol, rfl, q0⟩ := (HC.out.on hbwi) i hlt
        have r0 := ((HROW.out.on hbi).cell hlt).1
        obtain ⟨hci, hai⟩ := HCUR.out i hlt
        have hti := (HT.out i hlt).on hbwi
        have hlim := HONE.out i hlt
        cases hcu : cur i with
        | nil =>
          obtain ⟨a1, c1, ef, _⟩ := hti
          rw [ef] at q0
          rw [hci] at hcu
          have hge := drop_nil_ge hcu
          rw [← hci] at hcu
          have k1 : decide ((at_ i : Int) < ((cur0 i).length : Int)) = false := decide_eq_false (by omega)
          have k2 : decide (at_ i < (cur0 i).length) = false := decide_eq_false (by omega)
          have HBS := Lib.hid (best_skip hbest hcu)
          generalize at_ i = ai at *
          generalize (cur0 i).length = li at *
          clear hbi hbwi hcu hci ef H hge
          have HE : Hid (Best cur (i + 1) (z) ∧ True) := ⟨HBS.out, trivial⟩
          clear hbest
          go_wp2_with fail
          go_big_quiet (fail)
          have HBQ := Lib.hid (below_drewN HBI.out nq)
          go_wp2_with fail
          go_roundw
          case rel => exact ⟨i + 1, z, by omega, by go_num, rfl, HE.out.1, HBQ.out⟩
          case measure => simp [intOf]; omega
        | cons s t =>
          rw [hci] at hcu
          obtain ⟨b1, o1, c1, ef, q1, hk⟩ := text_at hti hcu
          rw [← hci] at hcu
          rw [ef] at q0
          have k1 : (at_ i : Int) < ((cur0 i).length : Int) := by omega
          have hbest' := hbest
          rcases hbest' with ⟨rfl, _⟩ | ⟨b, s2, t2, hb, rfl, hcb, _⟩
          · have HBS := Lib.hid (best_none hbest hcu)
            generalize at_ i = ai at *
            generalize (cur0 i).length = li at *
            clear hbi hbwi hti hcu hci ef H
            have HE : Hid (Best cur (i + 1) ((i : Int)) ∧ True) := ⟨HBS.out, trivial⟩
            clear hbest
            go_wp2_with fail
            go_big_quiet (fail)
            have HBQ := Lib.hid (below_drewN HBI.out nq)
            go_wp2_with fail
            go_roundw
            case rel => exact ⟨i + 1, (i : Int), by omega, by go_num, rfl, HE.out.1, HBQ.out⟩
            case measure => simp [intOf]; omega
          · have hbn : b < n := by omega
            obtain ⟨bl', ol', e', p0⟩ := (HC.out.on hbwi) b hbn
            cases e'
            have rb := ((HROW.out.on hbi).cell hbn).1
            obtain ⟨hcb', hab⟩ := HCUR.out b hbn
            have hlimb := HONE.out b hbn
            have hcb2 := hcb
            rw [hcb'] at hcb2
            obtain ⟨b2, o2, c2, efb, p1, hkb⟩ := text_at ((HT.out b hbn).on hbwi) hcb2
            rw [efb] at p0
            have k2 : (at_ b : Int) < ((cur0 b).length : Int) := by omega
            have k3 : decide ((b : Int) < 0) = false := decide_eq_false (by omega)
            have k4 : (b : Int) < (n : Int) := by omega
            by_cases hl : Op.bytesLess s.toList s2.toList = true
            · have HBS := Lib.hid (best_less hbest hcu hcb hl)
              generalize at_ i = ai at *
              generalize (cur0 i).length = li at *
              generalize at_ b = ab at *
              generalize (cur0 b).length = lb at *
              clear hbi hbwi hti hcu hci ef H hcb hcb' hcb2 efb
              have HE : Hid (Best cur (i + 1) ((i : Int)) ∧ True) := ⟨HBS.out, trivial⟩
              clear hbest
              go_wp2_with fail
              go_big_quiet (fail)
              have HBQ := Lib.hid (below_drewN HBI.out nq)
              go_wp2_with fail
              go_roundw
              case rel => exact ⟨i + 1, (i : Int), by omega, by go_num, rfl, HE.out.1, HBQ.out⟩
              case measure => simp [intOf]; omega
            · have hl : Op.bytesLess s.toList s2.toList = false := by simpa using hl
              have HBS := Lib.hid (best_more hbest hcu hcb hl)
              generalize at_ i = ai at *
              generalize (cur0 i).length = li at *
              generalize at_ b = ab at *
              generalize (cur0 b).length = lb at *
              clear hbi hbwi hti hcu hci ef H hcb hcb' hcb2 efb
              have HE : Hid (Best cur (i + 1) ((b : Int)) ∧ True) := ⟨HBS.out, trivial⟩
              clear hbest
              go_wp2_with fail
              go_big_quiet (fail)
              have HBQ := Lib.hid (below_drewN HBI.out nq)
              go_wp2_with fail
              go_roundw
              case rel => exact ⟨i + 1, (b : Int), by omega, by go_num, rfl, HE.out.1, HBQ.out⟩
              case measure => simp [intOf]; omega
      · obtain rfl : i = n := by omega
        obtain ⟨hbest, hbi⟩ := H.out
        obtain ⟨hown, hrow, hcur, hmg, hdl, hbw, hBs⟩ := HH.out
        have HB := Lib.hid (below_step HBW.out hbi)
        rcases hbest with ⟨rfl, hall⟩ | ⟨b, s, t, hb, rfl, hcb, hahead⟩
        · have HE : Hid (OwnT wr w.heap.size u4 dn ∧ Mg i cur0 dn) := by
            refine ⟨?_, by have := hmg [] (Mg.done hall); simpa using this⟩
            have ho := hown.on hbi
            refine ⟨ho.1, ?_⟩
            rcases ho.2 with h1 | ⟨g', cap, cur', e, h1, h2⟩
            · exact .inl h1
            · exact .inr ⟨g', cap, cur', e, by omega, h2⟩
          clear hown hrow hcur hmg hdl hbw hbi hall HH H HCUR HROW
          go_wp2_with fail
          go_ret
          exact ⟨⟨_, dn, rfl, HE.out.1, HE.out.2⟩, HB.out⟩
        · have hn0 := hb
          obtain ⟨bl, ol, rfl, q0⟩ := HC.out b hb
          obtain ⟨hci, hab⟩ := hcur b hb
          have hcb2 := hcb
          rw [hci] at hcb2
          obtain ⟨b1, o1, c1, ef, q1, hk⟩ := text_at (HT.out b hb) hcb2
          obtain ⟨_, _, hdr⟩ := drop_cons hcb2
          rw [ef] at q0
          have hlim := HONE.out b hb
          have hri := (hrow.on hbi)
          have r0 := (hri.cell hb).1
          have hwrB : B0 ≤ wr.heap.size := Nat.le_trans hBs hbi.size
          have Q0 : ∀ W', Below B0 wr W' → W'.cell? ⟨bl, ol + b, none⟩ = some (.slice (some ⟨b1, o1, none⟩) (cur0 b).length c1) := fun W' hW => (hW.cell (Nat.lt_of_lt_of_le (block_lt_of_cell q0) hB0w)).trans ((HB.out.cell (block_lt_of_cell q0)).trans q0)
          have Q1 : ∀ W', Below B0 wr W' → W'.cell? ⟨b1, o1 + at_ b, none⟩ = some (.string s) := fun W' hW => (hW.cell (Nat.lt_of_lt_of_le (block_lt_of_cell q1) hB0w)).trans ((HB.out.cell (block_lt_of_cell q1)).trans q1)
          have R0 : ∀ W', Below B0 wr W' → W'.cell? ⟨R, b, none⟩ = some (.int .i64 (at_ b)) := fun W' hW => (hW.cell hRB).trans r0
          have hb2 : (b : Int) < (i : Int) := by omega
          have hb3 : decide ((b : Int) < 0) = false := decide_eq_false (by omega)
          have hk2 : (at_ b : Int) < ((cur0 b).length : Int) := by omega
          have HOW := Lib.hid (hown.on hbi)
          have HRI := Lib.hid hri
          have hdn : dn.length + 1 ≤ 4000000 := by have := HTOT.out; have := tot_upd hcb hb; omega
          have HST := Lib.hid (And.intro hcur (And.intro hmg (And.intro hdl (And.intro hcb (And.intro hahead (And.intro hdr (tot_upd hcb hb)))))))
          clear hown hrow hcur hmg hdl hbw hbi HH H HCUR HROW hri hcb hahead hci hcb2 ef q0 q1 r0 hdr
          obtain ⟨lb, hlb⟩ : ∃ lb, lb = (cur0 b).length := ⟨_, rfl⟩
          obtain ⟨ab, hab2⟩ : ∃ ab, ab = at_ b := ⟨_, rfl⟩
          rw [← hlb] at Q0 hk2 hlim hk hab
          rw [← hab2] at Q1 R0 hk2 hk hab
          have HAB := Lib.hid hab2
          clear hlb hab2
          go_wp2_with fail
          refine wp_region_noPanic ?_
          go_region_held_law (fun W' => Below B0 wr W') (first | assumption | exact (below_drew _).mono hwrB | exact Below.alloc (by assumption) (by exact Nat.le_trans hwrB (Below.size (by assumption))) _)
            (first
              | (refine step_append_texts B0 _ wr rfl _ _ rfl u4 dn [s] rfl (HOW.out.on (by exact Below.alloc (below_drew _) (Nat.le_refl _) _)) (some ⟨_, 0, none⟩) 1 1 rfl rfl (fun hh => by cases hh) (by first | exact one_text _ _ _ | exact one_text wr.drew _ _) hdn hwrB (by first | assumption | exact Below.alloc (by assumption) (by exact Nat.le_trans hwrB (Below.size (by assumption))) _) ?_; intro v2 w2 hown2 hb4))
          all_goals
            refine NoPanic.normal ?_
            have hr2 := HRI.out.below hb4 hRB
            have f1 := (hr2.cell hn0).1
            have f2 := (hr2.cell hn0).2
            rw [← HAB.out] at f1
            have HR2 := Lib.hid hr2
            have HO2 := Lib.hid hown2
            have HB4 := Lib.hid hb4
            clear hr2 hown2 hb4 Q0 Q1 R0
            go_wp2_with fail
            have HE : Hid (OwnT (w2.setCell ⟨R, b, none⟩ (.int .i64 ((ab : Int) + 1))) B0 v2 (dn ++ [s]) ∧ RowK 3 (w2.setCell ⟨R, b, none⟩ (.int .i64 ((ab : Int) + 1))) R i (fun j => .int .i64 (updF at_ b (ab + 1) j : Nat)) ∧ (∀ j, j < i → updF cur b t j = (cur0 j).drop (updF at_ b (ab + 1) j) ∧ updF at_ b (ab + 1) j ≤ (cur0 j).length) ∧ (∀ o, Mg i (updF cur b t) o → Mg i cur0 (dn ++ [s] ++ o)) ∧ (dn ++ [s]).length + tot (updF cur b t) i = tot cur0 i ∧ Below w.heap.size w (w2.setCell ⟨R, b, none⟩ (.int .i64 ((ab : Int) + 1))) ∧ B0 ≤ (w2.setCell ⟨R, b, none⟩ (.int .i64 ((ab : Int) + 1))).heap.size) := by
              obtain ⟨hcur, hmg, hdl, hcb, hahead, hdr, htu⟩ := HST.out
              refine ⟨⟨HO2.out.1, ?_⟩, ?_, fun j hj => ?_, fun o ho => ?_, ?_, ?_, ?_⟩
              · rcases HO2.out.2 with h1 | ⟨g2, cap2, cur2, e, h1, h2⟩
                · exact .inl h1
                · exact .inr ⟨g2, cap2, cur2, e, h1, by rw [heap_far _ (by omega)]; exact h2.1, h2.2⟩
              · obtain ⟨cc, k1, k2, k3⟩ := HR2.out.set b (.int .i64 ((ab : Int) + 1))
                refine ⟨cc, k1, k2, fun j hj => ?_⟩
                rw [k3 j hj]
                show _ = some (Value.int .i64 ((updF at_ b (ab + 1) j : Nat) : Int))
                by_cases e : j = b
                · subst e; rw [updF_at, updF_at]; rfl
                · rw [updF_old e, updF_old e]
              · by_cases e : j = b
                · subst e
                  rw [updF_at, updF_at]
                  have h1 := HAB.out
                  refine ⟨by rw [h1]; exact hdr.symm, ?_⟩
                  have := (drop_cons (l := cur0 j) (k := at_ j) (s := s) (t := t) (by rw [← (hcur j hj).1]; exact hcb)).1
                  omega
                · rw [updF_old e, updF_old e]; exact hcur j hj
              · have := hmg (s :: o) (Mg.step hn0 hcb hahead ho)
                simpa using this
              · rw [List.length_append, List.length_singleton]; omega
              · exact (HB.out.trans (HB4.out.mono hB0w)).setCell hRw _
              · rw [Deep.nblk_setCell]; exact Nat.le_trans hwrB HB4.out.size
            have htu := HST.out.2.2.2.2.2.2
            go_roundg (tot (updF cur b t) i + 1)
            case measure => omega
            case rel => exact ⟨updF cur b t, dn ++ [s], updF at_ b (ab + 1), Nat.le_refl _, HE.out⟩
end Go.Proofs.Ytnkdhipeklphaaa
