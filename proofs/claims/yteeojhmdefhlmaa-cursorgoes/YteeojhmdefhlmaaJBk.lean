/- Plain facts: the items of a list in order that lie in a range, from the last on. No program is in it; greatest; Back, and its iterator: the items of a tree that lie in a range, from the last on. -/
import Derived.Test.YteeojhmdefhlmaaCuSel
import Derived.Test.YteeojhmdefhlmaaCuAll
import Derived.Test.YteeojhmdefhlmaaVTo
namespace Go.Proofs.Yteeojhmdefhlmaa
open Go.Lib

/-- The last item that does not lie behind a range. -/
def gstO (r : Rg) (l : List It) : Option It := lastL (fun x => ahdR r x.1) l
theorem gst_last {r : Rg} (hf : r.ht = false) (l : List It) : gstO r l = l.getLast? := by
  unfold gstO lastL
  rw [List.filter_eq_self.2 fun x _ => by unfold ahdR; rw [hf]; rfl]
theorem dn_take {P : It → Bool} : ∀ {l : List It}, Srt l → (∀ x y : It, ltb x.1 y.1 = true → P y = true → P x = true) → ∃ j, j ≤ l.length ∧ l.filter P = l.take j ∧ (∀ x ∈ l.take j, P x = true) ∧ (∀ x ∈ l.drop j, P x = false)
  | [], _, _ => ⟨0, Nat.le_refl _, rfl, by simp, by simp⟩
  | a :: l, hs, hP => by
    have hs2 : Srt l := (List.pairwise_cons.1 hs).2
    have ha := (List.pairwise_cons.1 hs).1
    by_cases h : P a = true
    · obtain ⟨j, h1, h2, h3, h4⟩ := dn_take hs2 hP
      refine ⟨j + 1, by simp; omega, by rw [List.filter_cons_of_pos h, h2, List.take_succ_cons], ?_, by simpa using h4⟩
      intro x hx
      rw [List.take_succ_cons] at hx
      rcases List.mem_cons.1 hx with rfl | hx
      · exact h
      · exact h3 x hx
    · have hall : ∀ x ∈ l, P x = false := fun x hx => by
        cases hh : P x with
        | false => rfl
        | true => exact absurd (hP a x (ha x hx) hh) h
      refine ⟨0, Nat.zero_le _, ?_, by simp, ?_⟩
      · rw [List.filter_cons_of_neg h, List.filter_eq_nil_iff.2 fun x hx => by rw [hall x hx]; simp]; rfl
      · intro x hx
        rcases List.mem_cons.1 hx with rfl | hx
        · simpa using h
        · exact hall x hx
/-- What one comes to from number j on, backwards. -/
def curB (l : List It) (j : Nat) : Option It := (l.take j).getLast?
theorem curB_zero (l : List It) : curB l 0 = none := by simp [curB]
theorem curB_succ {l : List It} {j : Nat} (h : j < l.length) : curB l (j + 1) = some l[j] := by
  unfold curB
  rw [List.take_add_one, List.getElem?_eq_getElem h]
  exact List.getLast?_concat
structure Ba (r : Rg) (l : List It) (j : Nat) : Prop where
  le : j ≤ l.length
  ahd : ∀ x ∈ l.take j, ahdR r x.1 = true
theorem ba_start {l : List It} (hs : Srt l) (r : Rg) : ∃ j, gstO r l = curB l j ∧ Ba r l j ∧ selR r (l.drop j) = [] := by
  obtain ⟨j, h1, h2, h3, h4⟩ := dn_take (P := fun x : It => ahdR r x.1) hs (fun x y h hy => ahd_dn h hy)
  refine ⟨j, ?_, ⟨h1, h3⟩, List.filter_eq_nil_iff.2 fun x hx => ?_⟩
  · unfold gstO lastL curB
    rw [h2]
  · unfold hasR; rw [h4 x hx]; simp
theorem drop_at {l : List It} {j : Nat} (h : j < l.length) : l.drop j = l[j] :: l.drop (j + 1) := List.drop_eq_getElem_cons h
theorem selB_snoc {r : Rg} {l : List It} {j : Nat} (h : j < l.length) (hh : hasR r l[j].1 = true) : (selR r (l.drop j)).reverse = (selR r (l.drop (j + 1))).reverse ++ [l[j]] := by
  unfold selR
  rw [drop_at h, List.filter_cons_of_pos (by exact hh)]
  simp
theorem mem_take_succ {l : List It} {j : Nat} (h : j < l.length) : l[j] ∈ l.take (j + 1) := by
  rw [List.take_add_one, List.getElem?_eq_getElem h]
  exact List.mem_append_right _ (List.mem_singleton.2 rfl)
theorem Ba.step {r : Rg} {l : List It} {j : Nat} (h : Ba r l (j + 1)) : Ba r l j := by
  refine ⟨by have := h.le; omega, fun x hx => h.ahd x ?_⟩
  rw [List.take_add_one]
  exact List.mem_append_left _ hx
theorem Ba.here {r : Rg} {l : List It} {j : Nat} (h : Ba r l (j + 1)) (hj : j < l.length) (hb : behR r l[j].1 = true) : hasR r l[j].1 = true := by
  unfold hasR
  rw [hb, h.ahd _ (mem_take_succ hj)]
  rfl
theorem Ba.stop {r : Rg} {l : List It} {j : Nat} (hs : Srt l) (hj : j < l.length) (hb : behR r l[j].1 = false) : selR r (l.drop (j + 1)) = selR r l := by
  conv => rhs; rw [← List.take_append_drop (j + 1) l]
  unfold selR
  have hnil : (l.take (j + 1)).filter (fun x => hasR r x.1) = [] := List.filter_eq_nil_iff.2 fun y hy => by
    obtain ⟨i, hi, hy2⟩ := mem_take_at hy
    have : behR r y.1 = false := by
      rcases Nat.lt_or_ge i j with q | q
      · cases hh : behR r y.1 with
        | false => rfl
        | true => rw [beh_up (srt_at hs q hy2 (List.getElem?_eq_getElem hj)) hh] at hb; cases hb
      · obtain rfl : i = j := by omega
        rw [List.getElem?_eq_getElem hj] at hy2; cases hy2; exact hb
    unfold hasR
    rw [this]; simp
  rw [List.filter_append, hnil, List.nil_append]
theorem selB_pre (r : Rg) (l : List It) (j : Nat) : (selR r (l.drop j)).reverse <+: (selR r l).reverse := by
  refine ⟨(selR r (l.take j)).reverse, ?_⟩
  rw [← List.reverse_append]
  unfold selR
  rw [← List.filter_append, List.take_append_drop]
theorem prev_at {l : List It} (hs : Srt l) {j : Nat} (hj : j < l.length) : lastL (toP l[j].1 true) l = curB l j := by
  obtain ⟨i, h1, h2, h3, h4⟩ := dn_take (P := toP l[j].1 true) hs (fun x y h hy => toP_dn _ _ x y h hy)
  unfold lastL curB
  rw [h2]
  congr 2
  have hjj : l[j]? = some l[j] := List.getElem?_eq_getElem hj
  have a1 : ¬ j < i := fun q => by
    have hm : l[j] ∈ l.take i := List.mem_of_getElem? (i := j) (by rw [List.getElem?_take, if_pos q]; exact hjj)
    have := h3 _ hm
    simp only [toP, if_true] at this
    rw [ltb_irrefl] at this; cases this
  have a2 : ¬ i < j := fun q => by
    have hi : i < l.length := by omega
    have hm : l[i] ∈ l.drop i := by rw [drop_at hi]; exact List.mem_cons_self
    have := h4 _ hm
    simp only [toP, if_true] at this
    rw [srt_at hs q (List.getElem?_eq_getElem hi) hjj] at this
    cases this
  omega
end Go.Proofs.Yteeojhmdefhlmaa

namespace Go.Proofs.Yteeojhmdefhlmaa
open Go.RowKit Go.Sort Go.Shelf

attribute [local go_sem] Oper.semAt_some
set_option maxRecDepth 100000 in
set_option maxHeartbeats 1000000 in
theorem greatest_ {w : World} {M : Nat → Option Nd} {p : Nat} {l : List It} {F : Nat → Prop} (hs : Store w M) (ht : TreeAt w M p l F) (r : Rg) :
    Calls Try.prog 41 #[.pointer (some ⟨p, 0, none⟩), rgV r] w fun e w' => e = .returned (tellV (gstO r l)) ∧ Below w.heap.size w w' := by
  obtain ⟨t1, t2, b, e1, _⟩ := tell_parts (gstO r l)
  rw [e1]
  obtain ⟨f, t, hf, ho, pf, po⟩ := r
  have HB0 := Lib.hid (below_alloc w (.cells #[.string f, .string t, .bool hf, .bool ho, .bool pf, .bool po] 24))
  cases ho with
  | false =>
    have HC : Hid (Calls Try.prog 53 #[.pointer (some ⟨p, 0, none⟩)] (w.alloc (.cells #[.string f, .string t, .bool hf, .bool false, .bool pf, .bool po] 24)) fun e w' => e = .returned (.tuple #[.string t1, .string t2, .bool b]) ∧ Below (w.alloc (.cells #[.string f, .string t, .bool hf, .bool false, .bool pf, .bool po] 24)).heap.size (w.alloc (.cells #[.string f, .string t, .bool hf, .bool false, .bool pf, .bool po] 24)) w') := by
      have := tlast_ (hs.on HB0.out) (ht.on HB0.out)
      rw [← gst_last (r := ⟨f, t, hf, false, pf, po⟩) rfl, e1] at this
      exact this
    clear hs ht e1
    unfold rgV
    dsimp only
    go_enter Try.func41, Try.ntmps41
    go_wp2_with (first | (go_at_call 53; refine HC.out.mono ?_; rintro e w' ⟨rfl, hb⟩; have HB := Lib.hid hb; clear hb HC) | fail)
    go_ret3
    exact ⟨rfl, below_step HB0.out HB.out⟩
  | true =>
    have HC : Hid (Calls Try.prog 42 #[.pointer (some ⟨p, 0, none⟩), .string t, .bool po] (w.alloc (.cells #[.string f, .string t, .bool hf, .bool true, .bool pf, .bool po] 24)) fun e w' => e = .returned (.tuple #[.string t1, .string t2, .bool b]) ∧ Below (w.alloc (.cells #[.string f, .string t, .bool hf, .bool true, .bool pf, .bool po] 24)).heap.size (w.alloc (.cells #[.string f, .string t, .bool hf, .bool true, .bool pf, .bool po] 24)) w') := by
      have := tto_ (hs.on HB0.out) (ht.on HB0.out) t po
      rw [show lastL (toP t po) l = gstO ⟨f, t, hf, true, pf, po⟩ l by unfold gstO; rw [← toP_ahd ⟨f, t, hf, true, pf, po⟩ rfl], e1] at this
      exact this
    clear hs ht e1
    unfold rgV
    dsimp only
    go_enter Try.func41, Try.ntmps41
    go_wp2_with (first | (go_at_call 42; refine HC.out.mono ?_; rintro e w' ⟨rfl, hb⟩; have HB := Lib.hid hb; clear hb HC) | fail)
    go_ret3
    exact ⟨rfl, below_step HB0.out HB.out⟩
set_option maxRecDepth 100000 in
set_option maxHeartbeats 2000000 in
theorem back1_in (n : Nat) (hn : 1 ≤ n) (ly : Nat) {M : Nat → Option Nd} {p : Nat} {l : List It} {F : Nat → Prop} {bt br : Nat} {r : Rg} (J Jx : List It → World → Prop)
    (hY : ∀ pre x W, J pre W → pre.length < l.length → YieldAt Fence.wide (n - 1) Try.prog ly (encI x) W fun e W' => (e = .returned (.bool true) ∧ J (pre ++ [x]) W' ∧ KpT M p bt br W W') ∨ (e = .returned (.bool false) ∧ Jx (pre ++ [x]) W'))
    (W : World) (hJ : AbidesFrom W.heap.size J) (hT : Tr W M p l F bt br r) (h0 : J [] W) :
    CallsIn Fence.wide n Try.prog 40 #[.func (.yield ly) #[] #[], .pointer (some ⟨bt, 0, none⟩), .pointer (some ⟨br, 0, none⟩)] W fun e W' => (∃ v, e = .returned v) ∧ ((∃ ys, ys = (selR r l).reverse ∧ J ys W') ∨ (∃ pre, pre <+: (selR r l).reverse ∧ Jx pre W')) := by
  have hS := hT.tr.srt
  obtain ⟨j0, e0, hBa0, hnil⟩ := ba_start hS r
  obtain ⟨t1, t2, b, e1, hcur⟩ := tell_parts (gstO r l)
  have HL : Hid (Calls Try.prog 41 #[.pointer (some ⟨p, 0, none⟩), rgV r] W fun e w' => e = .returned (.tuple #[.string t1, .string t2, .bool b]) ∧ Below W.heap.size W w') := by
    have := greatest_ hT.st hT.tr r
    rw [e1] at this
    exact this
  rw [e0] at hcur
  obtain ⟨c0, c1, c2, c3, c4, c5, c6⟩ := hT.cells
  have HT := Lib.hid hT
  have HJ := Lib.hid hJ
  have HJ0 : Hid (J (selR r (l.drop j0)).reverse W) := by rw [hnil]; exact h0
  have HFo := Lib.hid hBa0
  have HS := Lib.hid hS
  have HCur := Lib.hid hcur
  clear hT hJ h0 hBa0 hS hcur hnil e0 e1
  unfold rgV at *
  refine callsIn_of_wp Try.func40 rfl (wide_fn _) ?_ wide_round
  simp only [Try.ntmps40, List.size_toArray, List.length_cons, List.length_nil, Nat.reduceAdd, Nat.reduceSub, Array.replicate_succ, Array.replicate_zero, List.push_toArray, List.append_toArray, List.nil_append, List.cons_append]
  gi_wp2
  refine ⟨wide_fn _, (callsIn_wide.2 HL.out).mono ?_⟩
  rintro e W1 ⟨rfl, hb1⟩
  have HT1 := Lib.hid (HT.out.on hb1)
  have HJ1 := Lib.hid (abides_below HJ.out HJ0.out hb1)
  clear hb1 HL HT HJ0 c0 c1 c2 c3 c4 c5 c6
  gi_wp2
  gi_loopg [4, 5, 6] j0 (fun kx v1 v2 v3 wr => ∃ j t1 t2 b, j ≤ kx ∧ v1 = .string t1 ∧ v2 = .string t2 ∧ v3 = .bool b ∧ Hid ((curB l j = none ∧ b = false) ∨ ∃ x : It, curB l j = some x ∧ t1 = x.1 ∧ t2 = x.2 ∧ b = true) ∧ Hid (Ba r l j) ∧ Hid (J (selR r (l.drop j)).reverse wr) ∧ Hid (Tr wr M p l F bt br r))
  case atStart => exact ⟨j0, t1, t2, b, Nat.le_refl _, rfl, rfl, rfl, HCur, HFo, HJ1, HT1⟩
  case round =>
    clear HCur HFo HJ1 HT1
    obtain ⟨j, t1, t2, b, hk, rfl, rfl, rfl, HC, HFo, HJj, HT⟩ := hrel
    obtain ⟨c0, c1, c2, c3, c4, c5, c6⟩ := HT.out.cells
    cases j with
    | zero =>
      rcases HC.out with ⟨_, rfl⟩ | ⟨x, hx, _⟩
      · have HE : Hid (J (selR r l).reverse wr) := by have := HJj.out; rw [List.drop_zero] at this; exact this
        clear HC
        gi_wp2
        refine ⟨wide_fn _, ?_⟩
        gi_wp2
        refine ⟨fun f _ => wide_fn f, ?_⟩
        gi_wp2
        go_end0
        exact ⟨⟨_, rfl⟩, .inl ⟨_, rfl, HE.out⟩⟩
      · rw [curB_zero] at hx; cases hx
    | succ j =>
      have hjl : j < l.length := by have := HFo.out.le; omega
      rcases HC.out with ⟨hnone, _⟩ | ⟨x, hx, rfl, rfl, rfl⟩
      · rw [curB_succ hjl] at hnone; cases hnone
      rw [curB_succ hjl] at hx
      have hxe : l[j] = x := Option.some.inj hx
      have HX := Lib.hid hxe
      have HA := Lib.hid (beh_ r x.1)
      clear hx HC hxe
      cases hah : behR r x.1 with
      | false =>
        rw [hah] at HA
        unfold rgV at HA
        have HE : Hid (selR r (l.drop (j + 1)) = selR r l) := Ba.stop HS.out hjl (by rw [HX.out]; exact hah)
        clear hah
        gi_wp2
        refine ⟨wide_fn _, (callsIn_wide.2 (HA.out wr)).mono ?_⟩
        rintro e W2 ⟨rfl, hb2⟩
        have HJ2 := Lib.hid (abides_below HJ.out HJj.out hb2)
        clear hb2
        gi_wp2
        refine ⟨fun f _ => wide_fn f, ?_⟩
        gi_wp2
        go_end0
        exact ⟨⟨_, rfl⟩, .inl ⟨_, rfl, by rw [← HE.out]; exact HJ2.out⟩⟩
      | true =>
        rw [hah] at HA
        unfold rgV at HA
        have HH : Hid (hasR r l[j].1 = true) := HFo.out.here hjl (by rw [HX.out]; exact hah)
        clear hah
        gi_wp2
        refine ⟨wide_fn _, (callsIn_wide.2 (HA.out wr)).mono ?_⟩
        rintro e W2 ⟨rfl, hb2⟩
        have HT2 := Lib.hid (HT.out.on hb2)
        have hJ2 := abides_below HJ.out HJj.out hb2
        have hple : ((selR r (l.drop (j + 1))).reverse).length < l.length := by rw [List.length_reverse]; exact Nat.lt_of_le_of_lt (List.length_filter_le _ _) (by rw [List.length_drop]; omega)
        obtain ⟨fn, tmps, assign, body, hy, hR⟩ := hY (selR r (l.drop (j + 1))).reverse x W2 hJ2 hple
        unfold encI at hy
        have HR := Lib.hid hR
        have HSn : Hid ((selR r (l.drop j)).reverse = (selR r (l.drop (j + 1))).reverse ++ [x]) := by have := selB_snoc hjl HH.out; rw [HX.out] at this; exact this
        clear hR hJ2 hb2 HT HJj hple c0 c1 c2 c3 c4 c5 c6
        gi_wp2
        refine HR.out.mono ?_
        rintro e W3 (⟨rfl, hJ3, hk3⟩ | ⟨rfl, hJx3⟩)
        · have HT3 := Lib.hid (HT2.out.kp hk3)
          obtain ⟨t1, t2, b, e1, hcur⟩ := tell_parts (lastL (toP x.1 true) l)
          have HN : Hid (Calls Try.prog 42 #[.pointer (some ⟨p, 0, none⟩), .string x.1, .bool true] W3 fun e w' => e = .returned (.tuple #[.string t1, .string t2, .bool b]) ∧ Below W3.heap.size W3 w') := by
            have := tto_ HT3.out.st HT3.out.tr x.1 true
            rw [e1] at this
            exact this
          have hpv := prev_at HS.out hjl
          rw [HX.out] at hpv
          rw [hpv] at hcur
          have HCur := Lib.hid hcur
          have HJ3 := Lib.hid hJ3
          obtain ⟨c0, c1, c2, c3, c4, c5, c6⟩ := HT3.out.cells
          clear hJ3 hk3 HR hy hcur e1 HT2 hpv
          gi_wp2
          refine ⟨wide_fn _, (callsIn_wide.2 HN.out).mono ?_⟩
          rintro e W4 ⟨rfl, hb4⟩
          have HT4 := Lib.hid (HT3.out.on hb4)
          have HJ4 : Hid (J (selR r (l.drop j)).reverse W4) := by rw [HSn.out]; exact abides_below HJ.out HJ3.out hb4
          clear hb4 HN HT3 HJ3 c0 c1 c2 c3 c4 c5 c6
          gi_wp2
          gi_roundg j
          case measure => omega
          case rel => exact ⟨j, t1, t2, b, Nat.le_refl _, rfl, rfl, rfl, HCur, HFo.out.step, HJ4, HT4⟩
        · have HJ3 := Lib.hid hJx3
          clear hJx3 HR
          gi_wp2
          go_end0
          exact ⟨⟨_, rfl⟩, .inr ⟨_, by rw [← HSn.out]; exact selB_pre r l j, HJ3.out⟩⟩
theorem back_stops (n : Nat) (hn : 1 ≤ n) {M : Nat → Option Nd} {p : Nat} {l : List It} {F : Nat → Prop} {bt br : Nat} {r : Rg} {w : World} (hT : Tr w M p l F bt br r) :
    SeqStopsK Fence.wide n Try.prog 40 #[.pointer (some ⟨bt, 0, none⟩), .pointer (some ⟨br, 0, none⟩)] encI (KpT M p bt br) (fun ys => ys = (selR r l).reverse) (fun pre => pre <+: (selR r l).reverse) l.length w := fun ly J Jx W hW hJ _ hY h0 =>
  back1_in n hn ly J Jx hY W hJ (hT.on hW) h0
set_option maxHeartbeats 1000000 in
theorem back_ (p : Nat) (r : Rg) (w : World) :
    Calls Try.prog 22 #[.pointer (some ⟨p, 0, none⟩), rgV r] w fun e w' => e = .returned (.func (.func 40) #[] #[.pointer (some ⟨w.heap.size, 0, none⟩), .pointer (some ⟨w.heap.size + 1, 0, none⟩)]) ∧ w' = (w.alloc (.cells #[.pointer (some ⟨p, 0, none⟩)] 38)).alloc (.cells #[.string r.f, .string r.t, .bool r.hf, .bool r.ht, .bool r.pf, .bool r.pt] 24) := by
  unfold rgV
  go_enter Try.func22, Try.ntmps22
  go_wp2_with fail
  go_ret
  exact ⟨rfl, rfl⟩
end Go.Proofs.Yteeojhmdefhlmaa
