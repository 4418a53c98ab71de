/- The walk of table's Parse. -/
import Derived.Test.YtlgnllnjhpihdaaDoorTbGuess
namespace Go.Proofs.YtlgnllnjhpihdaaDoor
open Go.RowKit Go.Sort

/-- Is a table that of a text? -/
def isT (s : List UInt8) (t : Tab) : Bool := decide (chkT t = 0) && decide (txtT t = s)
theorem isT_iff {s : List UInt8} {t : Tab} : isT s t = true ↔ IsText t s := by
  unfold isT IsText
  simp
/-- The table that is read, and the error. -/
def prsT (s : List UInt8) : Tab := if isT s (gPro s) = true then gPro s else ⟨⟨#[]⟩, []⟩
def prsE (s : List UInt8) : Int := if isT s (gPro s) = true then 0 else 3
/-- What Parse hands back. -/
def ParseTo (w : World) (s : List UInt8) (e : Ending) (w' : World) : Prop :=
  ∃ a n c, e = .returned (.tuple #[.agg #[.string (prsT s).nm, .slice a n c], errV 63 (prsE s)]) ∧ n = (prsT s).cs.length ∧ ColsIn w' a (prsT s).cs ∧ n ≤ c ∧ (a = none → c = 0) ∧ (∀ b o, a = some ⟨b, o, none⟩ → w.heap.size ≤ b) ∧ Below w.heap.size w w'
theorem ColsIn.set {w : World} {B o : Nat} {u : Value} {a : Option Addr} {cs : List Col} (h : ColsIn w a cs) (hB : ∀ b o', a = some ⟨b, o', none⟩ → b ≠ B) : ColsIn (w.setCell ⟨B, o, none⟩ u) a cs := by
  intro i hi
  obtain ⟨b, o', e, h0, h1, h2, h3⟩ := h i hi
  have hb := hB b o' e
  exact ⟨b, o', e, (cell_other hb).trans h0, (cell_other hb).trans h1, (cell_other hb).trans h2, (cell_other hb).trans h3⟩
theorem cols_below {w w' : World} {N : Nat} {a : Option Addr} {cs : List Col} (h : ColsIn w a cs) (hb : Below N w w') (hN : ∀ b o, a = some ⟨b, o, none⟩ → b < N) : ColsIn w' a cs := by
  intro i hi
  obtain ⟨b, o, e, h0, h1, h2, h3⟩ := h i hi
  have hl := hN b o e
  exact ⟨b, o, e, (hb.cell hl).trans h0, (hb.cell hl).trans h1, (hb.cell hl).trans h2, (hb.cell hl).trans h3⟩
set_option maxRecDepth 100000 in
set_option maxHeartbeats 1000000 in
theorem parse_ (s : ByteArray) (w : World) (hs : s.size < 4294967281) (hm : MaxAt w) : Calls Tryd.prog 21 #[.string s] w (ParseTo w (lst s)) := by
  obtain ⟨W1, hW1⟩ : ∃ W1, W1 = w.alloc (.cells #[.string ⟨#[]⟩, .slice none 0 0] 24) := ⟨_, rfl⟩
  have hB1 : Below w.heap.size w W1 := by rw [hW1]; exact below_alloc1 _ _
  have HT1 : Hid (TbB W1 w.heap.size ⟨#[]⟩ (.slice none 0 0)) := by show TbB _ _ _ _; rw [hW1]; exact tbB_new _ _ _ _ _ _
  have HB1 := Lib.hid hB1
  have HW1 := Lib.hid hW1.symm
  have HGs := Lib.hid (guess_ s W1 hs (hm.on hB1))
  have HTx : Hid (∀ W nm a c cs, ColsIn W a cs → cs.length ≤ c → cs.length ≤ 17 → Calls Tryd.prog 8 #[.agg #[.string nm, .slice a cs.length c]] W fun e w' => e = .returned (.tuple #[.string (txtS ⟨nm, cs⟩), errV 63 (chkT ⟨nm, cs⟩)]) ∧ Below W.heap.size W w') := fun W nm a c cs h h1 h2 => ttext_ nm a c cs W h h1 (by omega)
  have hl17 : (gPro (lst s)).cs.length ≤ 17 := by
    show ((Lib.splitN _ _ 17).map gCol).length ≤ 17
    rw [List.length_map]
    exact Nat.le_trans (splitK_len _ _ _) (by omega)
  have H17 := Lib.hid hl17
  have HP1 : Hid (isT (lst s) (gPro (lst s)) = true → prsT (lst s) = gPro (lst s) ∧ prsE (lst s) = 0) := fun h => ⟨by rw [prsT, if_pos h], by rw [prsE, if_pos h]⟩
  have HP2 : Hid (isT (lst s) (gPro (lst s)) = false → prsT (lst s) = ⟨⟨#[]⟩, []⟩ ∧ prsE (lst s) = 3) := fun h => ⟨by rw [prsT, if_neg (by rw [h]; decide)], by rw [prsE, if_neg (by rw [h]; decide)]⟩
  have HEq : Hid (chkT (gPro (lst s)) = 0 → ((txtS (gPro (lst s))).toList == s.toList) = isT (lst s) (gPro (lst s))) := fun h => by
    rw [beq_lst, beq_dec, txtS, if_pos h, lst_ofL, isT, decide_eq_true h, Bool.true_and]
  have HNe : Hid (chkT (gPro (lst s)) ≠ 0 → isT (lst s) (gPro (lst s)) = false) := fun h => by rw [isT, decide_eq_false h, Bool.false_and]
  generalize isT (lst s) (gPro (lst s)) = ok at *
  unfold ParseTo
  generalize prsT (lst s) = T at *
  generalize prsE (lst s) = E at *
  generalize gPro (lst s) = G at *
  obtain ⟨gn, gc⟩ := G
  clear hm hs hB1 hW1 hl17
  go_enter Tryd.func21, Tryd.ntmps21
  go_wp2_with fail
  rw [HW1.out]
  refine HGs.out.mono ?_
  rintro e w2 ⟨a, n, c, rfl, hn, hc, hnc, hna, hfr, hb2⟩
  have HB2 := Lib.hid (below_step HB1.out hb2)
  have HT2 := Lib.hid (HT1.out.on hb2)
  have HC2 := Lib.hid hc
  have HN : Hid (n = gc.length ∧ n ≤ c ∧ (a = none → c = 0) ∧ ∀ b o, a = some ⟨b, o, none⟩ → w.heap.size < b) := ⟨hn, hnc, hna, fun b o e => Nat.lt_of_lt_of_le HT1.out.lt (hfr b o e)⟩
  obtain ⟨W3, hW3⟩ : ∃ W3, W3 = w2.alloc (.cells #[.string gn, .slice a n c] 24) := ⟨_, rfl⟩
  have hB3 : Below w2.heap.size w2 W3 := by rw [hW3]; exact below_alloc1 _ _
  have HT6 : Hid (InT W3 w2.heap.size gn a n c) := by show InT _ _ _ _ _ _; rw [hW3]; exact inT_new _ _ _ _ _ _
  have HT3 := Lib.hid (HT2.out.on hB3)
  have HC3 := Lib.hid (HC2.out.on hB3)
  have HB3 := Lib.hid (below_step HB2.out hB3)
  have HW3 := Lib.hid hW3.symm
  have HX := HTx.out W3 gn a c gc HC3.out (by rw [← HN.out.1]; exact HN.out.2.1) H17.out
  rw [← HN.out.1] at HX
  have HTX := Lib.hid HX
  obtain ⟨r0, r1⟩ := HT6.out
  clear hn hc hnc hna hfr hb2 hB3 hW3 HT1 HB1 HB2 HT2 HC2 HW1 HGs HTx HX H17
  go_wp2_with fail
  rw [HW3.out]
  go_wp2_with fail
  refine HTX.out.mono ?_
  rintro e w4 ⟨rfl, hb4⟩
  have HB4 := Lib.hid (below_step HB3.out hb4)
  have HT4 := Lib.hid (HT3.out.on hb4)
  have HC4 := Lib.hid (HC3.out.on hb4)
  have HT7 := Lib.hid (HT6.out.on hb4)
  obtain ⟨q0, q1⟩ := HT7.out
  obtain ⟨s0, s1, f0, f1⟩ := HT4.out
  have HBr : Hid (∀ u v, Below w.heap.size w ((w4.setCell ⟨w.heap.size, 0, none⟩ u).setCell ⟨w.heap.size, 1, none⟩ v)) := fun u v => (HB4.out.setCell (Nat.le_refl _) _).setCell (Nat.le_refl _) _
  have HCr : Hid (∀ u v, ColsIn ((w4.setCell ⟨w.heap.size, 0, none⟩ u).setCell ⟨w.heap.size, 1, none⟩ v) a gc) := fun u v => (HC4.out.set (fun b o e => Nat.ne_of_gt (HN.out.2.2.2 b o e))).set (fun b o e => Nat.ne_of_gt (HN.out.2.2.2 b o e))
  clear HB3 HT3 HC3 HT6 r0 r1 hb4 HTX HW3
  by_cases h0 : chkT ⟨gn, gc⟩ = 0
  · have h1 := HEq.out h0
    rw [h0, errV, if_pos rfl]
    generalize txtS ⟨gn, gc⟩ = X at *
    clear h0 HEq HNe
    cases ok with
    | true =>
      have HF := Lib.hid (HP1.out rfl)
      clear HP1 HP2
      go_wp2_with fail
      refine bodyPost_ret (v := .tuple #[.agg #[.string gn, .slice a n c], .nilIface]) ?_ rfl ⟨a, n, c, ?_, ?_, ?_, HN.out.2.1, HN.out.2.2.1, fun b o e => Nat.le_of_lt (HN.out.2.2.2 b o e), HBr.out _ _⟩
      · simp [results, Tryd.results21, go_sem, s0, s1]
      · rw [HF.out.1, HF.out.2]; rfl
      · rw [HF.out.1]; exact HN.out.1
      · rw [HF.out.1]; exact HCr.out _ _
    | false =>
      have HF := Lib.hid (HP2.out rfl)
      clear HP1 HP2
      go_wp2_with fail
      refine bodyPost_ret (v := .tuple #[.agg #[.string ⟨#[]⟩, .slice none 0 0], .iface 63 (.int .i64 3)]) ?_ rfl ⟨none, 0, 0, ?_, ?_, ?_, Nat.le_refl _, fun _ => rfl, (fun b o e => (by cases e)), HBr.out _ _⟩
      · simp [results, Tryd.results21, go_sem, s0, s1]
      · rw [HF.out.1, HF.out.2]; rfl
      · rw [HF.out.1]; rfl
      · rw [HF.out.1]; exact colsIn_nil _ _
  · have hk := HNe.out h0
    subst hk
    have HF := Lib.hid (HP2.out rfl)
    obtain ⟨Z, hZ⟩ : ∃ Z, chkT ⟨gn, gc⟩ = Z := ⟨_, rfl⟩
    rw [hZ] at h0
    rw [hZ, errV, if_neg h0]
    clear HP1 HP2 HEq HNe h0 hZ
    go_wp2_with fail
    refine bodyPost_ret (v := .tuple #[.agg #[.string ⟨#[]⟩, .slice none 0 0], .iface 63 (.int .i64 3)]) ?_ rfl ⟨none, 0, 0, ?_, ?_, ?_, Nat.le_refl _, fun _ => rfl, (fun b o e => (by cases e)), HBr.out _ _⟩
    · simp [results, Tryd.results21, go_sem, s0, s1]
    · rw [HF.out.1, HF.out.2]; rfl
    · rw [HF.out.1]; rfl
    · rw [HF.out.1]; exact colsIn_nil _ _
end Go.Proofs.YtlgnllnjhpihdaaDoor
