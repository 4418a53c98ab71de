/- The walk of the document's own Parse of a lattice. -/
import Derived.Test.YtoompephogamaaaGreatDoorRParse
import Derived.Test.YtoompephogamaaaGreatDoorRNew
import Derived.Test.YtoompephogamaaaGreatDoorW7
namespace Go.Proofs.YtoompephogamaaaGreatDoor
open Go.RowKit Go.Sort

def RSays (ls : List Lab) (e : Ending) (w' : World) : Prop :=
  (newErr ls ≠ 0 ∧ ∃ v, e = .returned (.tuple #[v, .int .i64 (newErr ls)])) ∨ (newErr ls = 0 ∧ ∃ a c, e = .returned (.tuple #[.slice a ls.length c, .int .i64 0]) ∧ LabsIn w' a ls)

set_option maxHeartbeats 4000000 in
set_option maxRecDepth 100000 in
theorem r2Parse_yes (s : ByteArray) (ls : List Lab) (w : World) (hs : s.size ≤ 1048576) (hp : pieces s.data.toList = ls.map textL) (hok : ls.all okLab = true) :
    Calls Tryz.prog 17 #[.string s] w fun e w' => Below w.heap.size w w' ∧ RSays ls e w' := by
  have h0 : 0 < ls.length := by
    refine List.length_pos_iff.2 fun e => ?_
    subst e
    exact pieces_ne _ hp
  have HW := Lib.hid (all_allW hok)
  have hokj : ∀ j, j < ls.length → okLab (lab ls j) = true := fun j hj => List.all_eq_true.1 hok _ (lab_mem hj)
  have HOK := Lib.hid hokj
  obtain ⟨t, ht⟩ : ∃ t, t = s.data.toList := ⟨_, rfl⟩
  have HP0 : Hid (pieces (t.drop 0) = (ls.drop 0).map textL) := by rw [ht]; exact hp
  have HSTEP : Hid (∀ k f i : Nat, f ≤ i → k < ls.length → pieces (t.drop f) = (ls.drop k).map textL → (32 : UInt8) ∉ cutT t f i → (t[i]? = some 32 → cutT t f i = textL (lab ls k) ∧ k + 1 < ls.length ∧ pieces (t.drop (i + 1)) = (ls.drop (k + 1)).map textL) ∧ (i = t.length → cutT t f i = textL (lab ls k) ∧ k + 1 = ls.length)) := fun k f i hf hk h hn => part_step hf hk h hn
  have hsz : s.size = t.length := by rw [ht]; exact size_list s
  have HEXT : Hid (∀ f i, s.extract f i = ⟨(cutT t f i).toArray⟩) := fun f i => by rw [ht]; exact cut_ext s f i
  have HGET : Hid (∀ i (h : i < s.size), t[i]? = some s[i]) := fun i h => by
    rw [ht, List.getElem?_eq_getElem (by rw [← size_list]; exact h)]
    rfl
  have HSZ := Lib.hid hsz
  have HTK : Hid (∀ k, k < ls.length → ls.take (k + 1) = ls.take k ++ [lab ls k]) := fun k hk => take_snoc hk
  have HTA : Hid (ls.take ls.length = ls) := List.take_length
  have HTL : Hid (∀ k, k ≤ ls.length → (ls.take k).length = k) := fun k hk => by rw [List.length_take]; omega
  have HNEW : Hid (∀ (a : Option Addr) (c : Nat) (W : World), LabsIn W a ls → Calls Tryz.prog 7 #[.slice a ls.length c] W fun e w' => e = .returned (.int .i64 (newErr ls)) ∧ Below W.heap.size W w') := fun a c W hh => r2New_ a c ls W hh HW.out
  clear hp hok hokj ht hsz
  obtain ⟨N, hN⟩ : ∃ N, ls.length = N := ⟨_, rfl⟩
  have HNN := Lib.hid hN
  rw [hN] at h0 HOK HSTEP HTK HTL HTA HNEW
  clear hN
  obtain ⟨i0, hi, hz0, hz1, hz2⟩ := info_parts infoL
  go_enter Tryz.func17, Tryz.ntmps17
  go_wp2_with fail
  go_loopw [4, 5, 6] (fun lv fv iv wr => ∃ k f i : Nat, i ≤ s.size + 1 ∧ k ≤ i ∧ fv = .int .i64 f ∧ iv = .int .i64 i ∧ ((i ≤ s.size ∧ f ≤ i ∧ k < N ∧ (32 : UInt8) ∉ cutT t f i ∧ pieces (t.drop f) = (ls.drop k).map textL) ∨ (i = s.size + 1 ∧ k = N)) ∧ wr.ownsRow w.heap.size 25 2 lv k (labCells (ls.take k)) ∧ Below w.heap.size w wr) (fun _ _ iv _ => s.size + 1 - (intOf iv).toNat)
  case atStart => exact ⟨0, 0, 0, Nat.zero_le _, Nat.le_refl _, rfl, rfl, .inl ⟨Nat.zero_le _, Nat.le_refl _, h0, cut_none _ _, HP0.out⟩, World.ownsRow_nil _ _ _ _, Below.refl _ _⟩
  case round =>
    obtain ⟨k, f, i, hi1, hki, rfl, rfl, hcase, hown, hb⟩ := hrel
    have HO := Lib.hid hown
    clear hown
    rcases hcase with ⟨his, hfi, hkN, hno, hpc⟩ | ⟨rfl, rfl⟩
    · obtain ⟨st1, st2⟩ := HSTEP.out k f i hfi hkN hpc hno
      have HS1 := Lib.hid st1
      have HS2 := Lib.hid st2
      have HNO := Lib.hid hno
      have HPC := Lib.hid hpc
      have hokk : okL (lab ls k).1 (lab ls k).2 = true := HOK.out k hkN
      have HPA : Hid (cutT t f i = textL (lab ls k) → ∀ W, Calls Tryz.prog 30 #[.string (s.extract f i)] W fun e w' => e = .returned (.tuple #[.agg #[.int .i64 (lab ls k).1, .int .u32 (lab ls k).2], .int .i64 0]) ∧ Below W.heap.size W w') := fun he W => by rw [HEXT.out, he]; exact parse10_yes _ _ W hokk
      have HT1 := Lib.hid (HTK.out k hkN)
      have hcells : ∀ x : List Lab, labCells x ++ [.int .i64 (lab ls k).1, .int .u32 (lab ls k).2] = labCells (x ++ [lab ls k]) := fun x => cells_snoc x _
      have HCS := Lib.hid hcells
      have HGI : Hid (∀ h : i < s.size, t[i]? = some (s[i]'h)) := HGET.out i
      clear st1 st2 hno hpc hokk hcells
      generalize (lab ls k).1 = r at *
      generalize (lab ls k).2 = cc at *
      have hfs : (f : Int) ≤ (i : Int) := by omega
      by_cases hend : i = s.size
      · obtain ⟨e1, e2⟩ := HS2.out (by rw [← HSZ.out]; exact hend)
        have HPK := Lib.hid (HPA.out e1)
        have hend' : (i : Int) = (s.size : Int) := by omega
        have HE2 := Lib.hid e2
        clear e1 e2 HS1 HS2 HPA HGI
        subst hend
        go_wp2_with fail
        refine (HPK.out _).mono ?_
        rintro e w2 ⟨rfl, hb2⟩
        have hb3 : Below w.heap.size w w2 := hb.trans (hb2.mono hb.size)
        have HO2 := Lib.hid (owns_on HO.out hb2)
        have hsz := hb3.size
        obtain ⟨a4, c4, rfl⟩ := row_shape HO2.out
        clear HPK hb2 HO
        go_wp2_with (first
          | (at_builtin; refine wpList_append_own _ rfl _ _ 22 rfl w.heap.size 25 i0 (.agg #[.int .i64 0, .int .u32 0]) 2 16 Tryz.underlying22 hi hz0 hz1 hz2 rfl (by decide) _ _ _ rfl ((HO2.out.alloc _).alloc _) ⟨w2.heap.size + 1, 0, none⟩ 1 1 [.int .i64 r, .int .u32 cc] rfl rfl (by have := pair_cell (w2.alloc (.cells #[.int .i64 r, .int .u32 cc] 25)) r cc 25; simpa using this) (pair_one r cc) (by unfold maxLen; omega) (by omega) (by simp; omega) ?_)
          | go_in)
        intro v' w4 hown' hgrow _
        have hb4 : Below w.heap.size w w4 := ((hb3.alloc hb3.size _).alloc (by simp; omega) _).grown hgrow (by simp; omega) (fun g hg => (HO2.out.lt g hg).1)
        rw [HCS.out, ← HT1.out] at hown'
        have HO3 := Lib.hid hown'
        clear hown' hgrow
        go_wp2
        go_roundw
        case rel => exact ⟨k + 1, _, _, Nat.le_refl _, by omega, by go_num, by go_num, .inr ⟨rfl, HE2.out⟩, HO3.out, hb4⟩
        case measure => simp [intOf]
      · have hlt : i < s.size := by omega
        have hend' : ¬ (i : Int) = (s.size : Int) := by omega
        have qe : ((i : Int) == (s.size : Int)) = false := beq_false_of_ne hend'
        by_cases hbl : s[i] = 32
        · obtain ⟨e1, e2, e3⟩ := HS1.out (by rw [HGI.out hlt, hbl])
          have HPK := Lib.hid (HPA.out e1)
          have HE3 := Lib.hid e3
          have hbn : (s[i].toNat : Int) = 32 := by rw [hbl]; rfl
          have qb : ((s[i].toNat : Int) == 32) = true := by rw [hbn]; rfl
          clear e1 e3 HS1 HS2 HPA HGI hbl
          go_wp2_with fail
          refine (HPK.out _).mono ?_
          rintro e w2 ⟨rfl, hb2⟩
          have hb3 : Below w.heap.size w w2 := hb.trans (hb2.mono hb.size)
          have HO2 := Lib.hid (owns_on HO.out hb2)
          have hsz := hb3.size
          obtain ⟨a4, c4, rfl⟩ := row_shape HO2.out
          clear HPK hb2 HO
          go_wp2_with (first
            | (at_builtin; refine wpList_append_own _ rfl _ _ 22 rfl w.heap.size 25 i0 (.agg #[.int .i64 0, .int .u32 0]) 2 16 Tryz.underlying22 hi hz0 hz1 hz2 rfl (by decide) _ _ _ rfl ((HO2.out.alloc _).alloc _) ⟨w2.heap.size + 1, 0, none⟩ 1 1 [.int .i64 r, .int .u32 cc] rfl rfl (by have := pair_cell (w2.alloc (.cells #[.int .i64 r, .int .u32 cc] 25)) r cc 25; simpa using this) (pair_one r cc) (by unfold maxLen; omega) (by omega) (by simp; omega) ?_)
            | go_in)
          intro v' w4 hown' hgrow _
          have hb4 : Below w.heap.size w w4 := ((hb3.alloc hb3.size _).alloc (by simp; omega) _).grown hgrow (by simp; omega) (fun g hg => (HO2.out.lt g hg).1)
          rw [HCS.out, ← HT1.out] at hown'
          have HO3 := Lib.hid hown'
          clear hown' hgrow
          go_wp2
          go_roundw
          case rel => exact ⟨k + 1, _, _, by omega, by omega, by go_num, by go_num, .inl ⟨by omega, Nat.le_refl _, e2, cut_none _ _, HE3.out⟩, HO3.out, hb4⟩
          case measure => simp [intOf]; omega
        · have HX := Lib.hid (cut_grow hfi (HGI.out hlt) hbl HNO.out)
          have hbn : ¬ (s[i].toNat : Int) = 32 := fun e => hbl (UInt8.toNat_inj.1 (by show s[i].toNat = 32; omega))
          have qb : ((s[i].toNat : Int) == 32) = false := beq_false_of_ne hbn
          clear HS1 HS2 HPA HGI hbl
          go_wp2_with fail
          go_roundw
          case rel => exact ⟨k, f, _, by omega, by omega, rfl, by go_num, .inl ⟨by omega, by omega, hkN, HX.out, HPC.out⟩, HO.out, hb⟩
          case measure => simp [intOf]; omega
    · rw [HTA.out] at HO
      have HO' : Hid (wr.ownsRow w.heap.size 25 2 u4 ls.length (labCells ls)) := by unfold Hid; rw [HNN.out]; exact HO.out
      obtain ⟨a4, c4, rfl, hin⟩ := labsIn_of HO'.out
      have HIN := Lib.hid hin
      rw [HNN.out]
      have HNK := Lib.hid (HNEW.out a4 c4 wr hin)
      clear hin HO HO'
      go_wp2_with fail
      refine HNK.out.mono ?_
      rintro e w2 ⟨rfl, hb2⟩
      have hb3 : Below w.heap.size w w2 := hb.trans (hb2.mono hb.size)
      have HIN2 := Lib.hid (HIN.out.on hb2)
      clear HNK HIN hb2
      have HRS : Hid (∀ e : Ending, ((newErr ls ≠ 0 ∧ ∃ v, e = .returned (.tuple #[v, .int .i64 (newErr ls)])) ∨ (newErr ls = 0 ∧ ∃ a c, e = .returned (.tuple #[.slice a k c, .int .i64 0]) ∧ LabsIn w2 a ls)) → RSays ls e w2) := fun e h => by unfold RSays; rw [HNN.out]; exact h
      by_cases hz : newErr ls = 0
      · have HZ := Lib.hid hz
        rw [hz]
        clear hz
        go_wp2_with fail
        go_ret2
        exact ⟨hb3, HRS.out _ (.inr ⟨HZ.out, a4, c4, rfl, HIN2.out⟩)⟩
      · have HZ := Lib.hid hz
        generalize hE : newErr ls = E at *
        go_wp2_with fail
        go_ret2
        exact ⟨hb3, HRS.out _ (.inl ⟨HZ.out, _, rfl⟩)⟩
end Go.Proofs.YtoompephogamaaaGreatDoor
