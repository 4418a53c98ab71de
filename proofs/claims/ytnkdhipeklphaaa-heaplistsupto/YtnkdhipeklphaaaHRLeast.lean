/- The walk of the document's Least. -/
import Derived.Test.YtnkdhipeklphaaaHRMerge
namespace Go.Proofs.Ytnkdhipeklphaaa
open Go.RowKit Go.Sort

theorem info4 : (Try.prog.info? 4).map (fun i => (i.zero, i.size, i.bytes)) = some (some (.bool false), 1, 1) := by kernel_rfl
/-- What is not yet taken. -/
def curT (T : Nat → Bool) (g : Nat → ByteArray) (j : Nat) : List ByteArray := if T j = true then [] else [g j]
theorem curT_yes {T : Nat → Bool} {g : Nat → ByteArray} {j : Nat} (h : T j = true) : curT T g j = [] := by simp [curT, h]
theorem curT_no {T : Nat → Bool} {g : Nat → ByteArray} {j : Nat} (h : T j = false) : curT T g j = [g j] := by simp [curT, h]
theorem curT_cons {T : Nat → Bool} {g : Nat → ByteArray} {j : Nat} {s : ByteArray} {t : List ByteArray} (h : curT T g j = s :: t) : T j = false ∧ s = g j := by
  unfold curT at h
  split at h
  · cases h
  · rename_i hT; cases h; exact ⟨by simpa using hT, rfl⟩
/-- Which ones are taken. -/
def Tk (g : Nat → ByteArray) (L k : Nat) (T : Nat → Bool) : Prop := ∀ i, i < L → (T i = true ↔ txS i (g i) ∈ (lst g L).take k)
theorem not_twice {l : List Sl} (h : Srt l) {k : Nat} (hk : k < l.length) : l[k] ∉ l.take k := by
  intro hm
  have h1 : Srt (l.take k ++ l.drop k) := by rw [List.take_append_drop]; exact h
  exact klt_irr _ ((List.pairwise_append.1 h1).2.2 _ hm (l[k]) (by rw [List.drop_eq_getElem_cons hk]; exact List.mem_cons_self))
/-- The one that comes first is the next of the list in order. -/
theorem next_best {g : Nat → ByteArray} {L k : Nat} {T : Nat → Bool} {z : Int} (hT : Tk g L k T) (hk : k < L) (hb : Best (curT T g) L z) : ∃ b : Nat, b < L ∧ z = (b : Int) ∧ T b = false ∧ ∃ hk' : k < (lst g L).length, (lst g L)[k] = txS b (g b) := by
  have hkl : k < (lst g L).length := by rw [len_lst]; exact hk
  obtain ⟨p, hp, hxp⟩ := mem_lst.1 (List.getElem_mem hkl)
  have hTp : T p = false := by
    cases hh : T p with
    | false => rfl
    | true =>
      have := (hT p hp).1 hh
      rw [← hxp] at this
      exact absurd this (not_twice (srt_lst g L) hkl)
  rcases hb with ⟨_, hall⟩ | ⟨b, s, t, hbL, rfl, hcb, hah⟩
  · have := hall p hp
    rw [curT_no hTp] at this; cases this
  · obtain ⟨hTb, rfl⟩ := curT_cons hcb
    refine ⟨b, hbL, rfl, hTb, hkl, ?_⟩
    have h1 := hah p (g p) [] hp (curT_no hTp)
    have hm : txS b (g b) ∈ lst g L := mem_lst.2 ⟨b, hbL, rfl⟩
    have hn : txS b (g b) ∉ (lst g L).take k := fun hh => by rw [(hT b hbL).2 hh] at hTb; cases hTb
    rw [← List.take_append_drop k (lst g L), List.drop_eq_getElem_cons hkl] at hm
    rcases List.mem_append.1 hm with hm | hm
    · exact absurd hm hn
    · rcases List.mem_cons.1 hm with hm | hm
      · exact hm.symm
      · have h2 := srt_lst g L
        rw [← List.take_append_drop k (lst g L), List.drop_eq_getElem_cons hkl] at h2
        have h3 := (List.pairwise_cons.1 (List.pairwise_append.1 h2).2.1).1 _ hm
        rw [hxp] at h3
        have h4 := (klt_rank (by rfl)).1 h3
        simp only [txS] at h4
        have h5 : Ahead (g p) p (g b) b := by
          rcases h4 with h4 | ⟨h4, h6⟩
          · exact .inl h4
          · exact .inr ⟨h4, by omega⟩
        have := ahead_anti h1 h5
        subst this
        exact hxp
theorem tk_next {g : Nat → ByteArray} {L k b : Nat} {T : Nat → Bool} (hT : Tk g L k T) (hk : k < (lst g L).length) (hx : (lst g L)[k] = txS b (g b)) : Tk g L (k + 1) (updF T b true) := by
  intro i hi
  rw [List.take_succ_eq_append_getElem hk, hx]
  by_cases e : i = b
  · subst e; simp [updF_at]
  · rw [updF_old e, hT i hi]
    simp only [List.mem_append, List.mem_singleton]
    constructor
    · exact .inl
    · rintro (h | h)
      · exact h
      · exact absurd (txS_inj h).1 e
set_option maxRecDepth 100000 in
set_option maxHeartbeats 4000000 in
theorem rleast_ (a : Option Addr) (L c : Nat) (n : Int) (g : Nat → ByteArray) (w : World) (hin : TextsAt w a L g) (hL : L ≤ 2000000) (m : Nat) (hm : m = (min n (L : Int)).toNat) :
    Calls Try.prog 11 #[.slice a L c, .int .i64 n] w fun e w' => (∃ v, e = .returned v ∧ OwnN w' w.heap.size v (ids (lst g L) m)) ∧ Below w.heap.size w w' := by
  have HI := Lib.hid hin
  have HM : Hid (m = (min n (L : Int)).toNat) := hm
  obtain ⟨i0, hi0, hz0, hz1, hz2⟩ := info_parts info4
  obtain ⟨j0, hj0, hy0, hy1, hy2⟩ := info_parts info3
  clear hin hm
  go_enter Try.func11, Try.ntmps11
  go_wp2_with (first
    | (at_make; refine wpList_make_full _ rfl _ _ 54 rfl w.heap.size 4 i0 (.bool false) 1 Try.underlying54 hi0 hz0 hz1 .i64 .i64 _ _ L rfl rfl rfl rfl (by rw [hz2]; omega) (by unfold maxLen; omega) (Nat.le_refl _) ?_)
    | fail)
  intro w1 hown1 hg1
  have hrow1 : RowK 4 w1 w.heap.size L (fun _ => .bool false) := RowK.made hown1
  have hb1 : Below w.heap.size w w1 := (Below.refl _ _).grown hg1 (Nat.le_refl _) (fun k hk => by cases hk)
  obtain ⟨R, hR⟩ : ∃ R, R = w.heap.size := ⟨_, rfl⟩
  obtain ⟨B0, hB0⟩ : ∃ B0, B0 = w1.heap.size := ⟨_, rfl⟩
  rw [← hR] at hrow1
  have hRB : R < B0 := by obtain ⟨cc, k1, _⟩ := hrow1; rw [hB0]; exact blk_lt k1
  have hB0w : w.heap.size ≤ B0 := by omega
  have hRw : w.heap.size ≤ R := by omega
  have HS : Hid (∃ T : Nat → Bool, OwnN w1 B0 (.slice none 0 0) (ids (lst g L) 0) ∧ RowK 4 w1 R L (fun i => .bool (T i)) ∧ Tk g L 0 T ∧ Below w.heap.size w w1 ∧ B0 ≤ w1.heap.size) :=
    ⟨fun _ => false, World.ownsRow_nil _ _ _ _, hrow1, fun i _ => by simp, hb1, Nat.le_of_eq hB0⟩
  rw [← hR]
  clear hown1 hg1 hrow1 hb1 hB0 hR
  go_wp2_with fail
  go_loopg [6] (m + 1) (fun gh ov wq => ∃ (k : Nat) (a2 : Option Addr) (c2 : Nat), k ≤ m ∧ m + 1 ≤ gh + k ∧ ov = .slice a2 k c2 ∧ Hid (∃ T : Nat → Bool, OwnN wq B0 (.slice a2 k c2) (ids (lst g L) k) ∧ RowK 4 wq R L (fun i => .bool (T i)) ∧ Tk g L k T ∧ Below w.heap.size w wq ∧ B0 ≤ wq.heap.size))
  case atStart => exact ⟨0, none, 0, Nat.zero_le _, by omega, rfl, HS.out⟩
  case round =>
    obtain ⟨k, a2, c2, hkm, hgh, rfl, H⟩ := hrel
    clear HS
    have hmL : m ≤ L := by have := HM.out; omega
    obtain ⟨T, hown, hrow, hT, hbw, hBs⟩ := H.out
    have HOWN := Lib.hid hown
    have HROW := Lib.hid hrow
    have HTK := Lib.hid hT
    have HBW := Lib.hid hbw
    clear hown hrow hT hbw H
    generalize wr = WQ at *
    by_cases hlt : k < m
    · have c1 : (k : Int) < n := by have := HM.out; omega
      have c3 : (k : Int) < (L : Int) := by omega
      clear HM
      go_wp2_with fail
      go_loopw [7, 8] (fun bv iv wi => ∃ (i : Nat) (z : Int), i ≤ L ∧ iv = .int .i64 i ∧ bv = .int .i64 z ∧ Hid (Best (curT T g) i z ∧ Below WQ.heap.size WQ wi)) (fun _ iv _ => L - (intOf iv).toNat)
      case atStart => exact ⟨0, -1, Nat.zero_le _, rfl, rfl, .inl ⟨rfl, fun j hj => by omega⟩, Below.refl _ _⟩
      case round =>
        obtain ⟨i, z, hi, rfl, rfl, H⟩ := hrel
        by_cases hlt3 : i < L
        · have hlt2 : (i : Int) < (L : Int) := by omega
          obtain ⟨hbest, hbi⟩ := H.out
          have HBI := Lib.hid hbi
          have hbwi := below_step HBW.out hbi
          have r0 := ((HROW.out.on hbi).cell hlt3).1
          obtain ⟨bl, ol, rfl, q0⟩ := (TextsAt.on HI.out rfl hbwi) i hlt3
          cases hTi : T i with
          | true =>
            rw [hTi] at r0
            have HBS := Lib.hid (best_skip hbest (curT_yes hTi))
            clear hbi hbwi H hTi
            clear hbest
            go_wp2_with fail
            go_big_quiet (fail)
            have HBQ := Lib.hid (below_drewN HBI.out nq)
            go_wp2_with fail
            go_roundw
            case rel => exact ⟨i + 1, z, by omega, by go_num, rfl, HBS.out, HBQ.out⟩
            case measure => simp [intOf]; omega
          | false =>
            rw [hTi] at r0
            have hcu := curT_no (g := g) hTi
            have hbest' := hbest
            rcases hbest' with ⟨rfl, _⟩ | ⟨b, s2, t2, hb, rfl, hcb, _⟩
            · have HBS := Lib.hid (best_none hbest hcu)
              clear hbi hbwi H hTi hcu
              clear hbest
              go_wp2_with fail
              go_big_quiet (fail)
              have HBQ := Lib.hid (below_drewN HBI.out nq)
              go_wp2_with fail
              go_roundw
              case rel => exact ⟨i + 1, (i : Int), by omega, by go_num, rfl, HBS.out, HBQ.out⟩
              case measure => simp [intOf]; omega
            · obtain ⟨hTb, rfl⟩ := curT_cons hcb
              have hbn : b < L := by omega
              obtain ⟨bl', ol', e', p0⟩ := (TextsAt.on HI.out rfl hbwi) b hbn
              cases e'
              have k3 : decide ((b : Int) < 0) = false := decide_eq_false (by omega)
              have k4 : (b : Int) < (L : Int) := by omega
              by_cases hl : Op.bytesLess (g i).toList (g b).toList = true
              · have HBS := Lib.hid (best_less hbest hcu hcb hl)
                generalize g i = s at *
                generalize g b = s2 at *
                clear hbi hbwi H hTi hcu hcb hTb
                clear hbest
                go_wp2_with fail
                go_big_quiet (fail)
                have HBQ := Lib.hid (below_drewN HBI.out nq)
                go_wp2_with fail
                go_roundw
                case rel => exact ⟨i + 1, (i : Int), by omega, by go_num, rfl, HBS.out, HBQ.out⟩
                case measure => simp [intOf]; omega
              · have hl : Op.bytesLess (g i).toList (g b).toList = false := by simpa using hl
                have HBS := Lib.hid (best_more hbest hcu hcb hl)
                generalize g i = s at *
                generalize g b = s2 at *
                clear hbi hbwi H hTi hcu hcb hTb
                clear hbest
                go_wp2_with fail
                go_big_quiet (fail)
                have HBQ := Lib.hid (below_drewN HBI.out nq)
                go_wp2_with fail
                go_roundw
                case rel => exact ⟨i + 1, (b : Int), by omega, by go_num, rfl, HBS.out, HBQ.out⟩
                case measure => simp [intOf]; omega
        · obtain rfl : i = L := by omega
          obtain ⟨hbest, hbi⟩ := H.out
          obtain ⟨b, hb, rfl, hTb, hkl, hxb⟩ := next_best HTK.out (by omega) hbest
          have HB := Lib.hid (below_step HBW.out hbi)
          have hri := HROW.out.on hbi
          have r0 := (hri.cell hb).1
          have r1 := (hri.cell hb).2
          have hb2 : (b : Int) < (i : Int) := by omega
          have HOW := Lib.hid (HOWN.out.on hbi)
          have hwrB : B0 ≤ wr.heap.size := Nat.le_trans hBs hbi.size
          have HX := Lib.hid (And.intro (tk_next HTK.out hkl hxb) (ids_succ hkl))
          rw [hxb] at HX
          have hil : (ids (lst g i) k).length = k := ids_len (by rw [len_lst]; omega)
          obtain ⟨W4, hW4⟩ : ∃ W4, W4 = wr.setCell ⟨R, b, none⟩ (.bool true) := ⟨_, rfl⟩
          have HRI : Hid (RowK 4 W4 R i (fun j => .bool (updF T b true j))) := by
            rw [hW4]
            obtain ⟨cc, k1, k2, k3⟩ := hri.set b (.bool true)
            refine ⟨cc, k1, k2, fun j hj => ?_⟩
            rw [k3 j hj]
            show _ = some (Value.bool (updF T b true j))
            by_cases e : j = b
            · subst e; rw [updF_at, updF_at]
            · rw [updF_old e, updF_old e]
          have HO4 : Hid (OwnN W4 B0 (.slice a2 k c2) (ids (lst g i) k)) := by
            rw [hW4]
            refine ⟨HOW.out.1, ?_⟩
            rcases HOW.out.2 with h1 | ⟨g2, cap2, cur2, e, h1, h2⟩
            · exact .inl h1
            · exact .inr ⟨g2, cap2, cur2, e, h1, by rw [heap_far _ (by omega)]; exact h2.1, h2.2⟩
          have HB4 : Hid (Below w.heap.size w W4) := by rw [hW4]; exact HB.out.setCell hRw _
          have hs4 : B0 ≤ W4.heap.size := by rw [hW4, Deep.nblk_setCell]; exact hwrB
          have HW4 := Lib.hid hW4
          clear hbest hbi H hri hxb hTb HOWN HROW HTK HBW HB HOW hW4
          go_wp2_with (first
            | (at_builtin; refine wpList_append_own _ rfl _ _ 26 rfl B0 3 j0 (.int .i64 0) 1 8 Try.underlying26 hj0 hy0 hy1 hy2 rfl (by decide) _ _ _ rfl (World.ownsRow.alloc (by rw [← HW4.out]; exact HO4.out) _) ⟨(wr.setCell ⟨R, b, none⟩ (.bool true)).heap.size, 0, none⟩ 1 1 [.int .i64 (b : Int)] (by simp [Act.eval]) rfl (one_cell _ _ _) (one_num _) (by unfold maxLen; omega) (by omega) (by rw [← HW4.out]; simp; omega) ?_)
            | fail)
          intro v' w4 hown hgrow _
          rw [← HW4.out] at hgrow
          have HE : Hid (OwnN w4 B0 v' (ids (lst g i) (k + 1)) ∧ RowK 4 w4 R i (fun j => .bool (updF T b true j)) ∧ Tk g i (k + 1) (updF T b true) ∧ Below w.heap.size w w4 ∧ B0 ≤ w4.heap.size) := by
            have hbA : Below W4.heap.size W4 (W4.alloc (.cells #[.int .i64 (b : Int)] 3)) := (Below.refl _ _).alloc (Nat.le_refl _) _
            have hgB : Below B0 W4 w4 := (hbA.mono hs4).grown hgrow (by simp; omega) (fun g' hg' => (World.ownsRow.lt HO4.out g' hg').1)
            refine ⟨?_, HRI.out.below hgB hRB, HX.out.1, HB4.out.trans (hgB.mono hB0w), Nat.le_trans hs4 hgB.size⟩
            rw [HX.out.2]
            unfold OwnN
            rw [← nums_snoc, List.length_append, List.length_singleton, hil]
            exact hown
          obtain ⟨a5, c5, hv5, _⟩ := HE.out.1.shape
          rw [ids_len (by rw [len_lst]; omega)] at hv5
          subst hv5
          clear hown hgrow
          go_wp2_with fail
          go_roundg (m - k)
          case measure => omega
          case rel => exact ⟨k + 1, a5, c5, by omega, by omega, rfl, _, HE.out⟩
    · obtain rfl : k = m := by omega
      have HE : Hid (OwnN WQ w.heap.size (.slice a2 k c2) (ids (lst g L) k)) := by
        refine ⟨HOWN.out.1, ?_⟩
        rcases HOWN.out.2 with h1 | ⟨g', cap, cur, e, h1, h2⟩
        · exact .inl h1
        · exact .inr ⟨g', cap, cur, e, by omega, h2⟩
      have hdec : ((k : Int) < n ∧ ¬ (k : Int) < (L : Int)) ∨ ¬ (k : Int) < n := by have := HM.out; omega
      clear HM HROW HTK HOWN
      rcases hdec with ⟨h1, h2⟩ | h1
      · go_wp2_with fail
        go_ret
        exact ⟨⟨_, rfl, HE.out⟩, HBW.out⟩
      · go_wp2_with fail
        go_ret
        exact ⟨⟨_, rfl, HE.out⟩, HBW.out⟩
end Go.Proofs.Ytnkdhipeklphaaa
