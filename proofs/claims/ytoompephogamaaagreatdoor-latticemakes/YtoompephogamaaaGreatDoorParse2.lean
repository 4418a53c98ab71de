/- The walk of lattice.Parse at texts of labels with one blank between. -/
import Derived.Test.YtoompephogamaaaGreatDoorParse
namespace Go.Proofs.YtoompephogamaaaGreatDoor
open Go.RowKit Go.Sort

def meas (sv mv : Value) : Nat := match sv, mv with
  | .string s, .bool true => s.size + 1
  | _, _ => 0
theorem says_take {ls : List Lab} {e : Ending} {w : World} (h : Says (ls.take 17) (newErr (ls.take 17)) e w) : Says ls (newErr ls) e w := by
  rw [newErr_take] at h
  obtain ⟨p, er, he, h | ⟨h0, h1, q, h2, h3⟩⟩ := h
  · exact ⟨p, er, he, .inl h⟩
  · have := (newErr_zero h0).2.1
    rw [List.take_of_length_le (by omega)] at h3
    exact ⟨p, er, he, .inr ⟨h0, h1, q, h2, h3⟩⟩
theorem allW_take {ls : List Lab} (h : allW ls) (k : Nat) : allW (ls.take k) := fun a ha => h a (List.mem_of_mem_take ha)
theorem pair_cell (w : World) (r : Int) (c : Nat) (t : TypeId) : ∀ j u, [Value.int .i64 r, Value.int .u32 c][j]? = some u → (w.alloc (.cells #[.int .i64 r, .int .u32 c] t)).cell? ((⟨w.heap.size, 0, none⟩ : Addr).add j) = some u := by
  intro j u hj
  match j, hj with
  | 0, hj => simp at hj; subst hj; simp [Addr.add]
  | 1, hj => simp at hj; subst hj; rw [Addr.add_lit]; simp [go_sem]
theorem pair_one (r : Int) (c : Nat) : ∀ u ∈ [Value.int .i64 r, Value.int .u32 c], u.oneCell' = true := by
  intro u hu; simp at hu; rcases hu with rfl | rfl <;> rfl
theorem cells_snoc (ls : List Lab) (a : Lab) : labCells ls ++ [.int .i64 a.1, .int .u32 a.2] = labCells (ls ++ [a]) := by rw [← labCells_append]; rfl
theorem drop_cons {ls : List Lab} {k : Nat} (h : k < ls.length) : ls.drop k = lab ls k :: ls.drop (k + 1) := by
  rw [List.drop_eq_getElem_cons h]; unfold lab; rw [List.getD_eq_getElem?_getD, List.getElem?_eq_getElem h]; rfl

theorem row_shape {w : World} {base n size : Nat} {e : TypeId} {v : Value} {xs : List Value} (h : w.ownsRow base e size v n xs) : ∃ a c, v = .slice a n c := by
  rcases h.2 with ⟨rfl, rfl⟩ | ⟨g, cap, cur, rfl, _⟩
  · exact ⟨none, 0, rfl⟩
  · exact ⟨_, cap, rfl⟩
/-- What one round of Parse takes off the text. -/
theorem piece_step {ls : List Lab} {k : Nat} {t : List UInt8} (hk : k < ls.length) (h : pieces t = (ls.drop k).map textL) :
    headOf 32 t = textL (lab ls k) ∧ ((decide (0 ≤ Lib.indexByte t 32) = true ∧ k + 1 < ls.length ∧ pieces (tailOf 32 t) = (ls.drop (k + 1)).map textL ∧ (tailOf 32 t).length < t.length) ∨ (decide (0 ≤ Lib.indexByte t 32) = false ∧ k + 1 = ls.length)) := by
  rw [drop_cons hk, List.map_cons] at h
  by_cases hm : (32 : UInt8) ∈ t
  · rw [pieces_more t hm] at h
    simp only [List.cons.injEq] at h
    refine ⟨h.1, .inl ⟨decide_eq_true ((index_mem _ _).2 hm), ?_, h.2, tail_lt hm⟩⟩
    refine Classical.byContradiction fun hc => ?_
    have hl : ls.drop (k + 1) = [] := List.drop_eq_nil_of_le (by omega)
    rw [hl, List.map_nil] at h
    exact pieces_ne _ h.2
  · rw [pieces_last t hm] at h
    simp only [List.cons.injEq] at h
    refine ⟨(head_last hm).trans h.1, .inr ⟨decide_eq_false fun hc => hm ((index_mem _ _).1 hc), ?_⟩⟩
    have hl := congrArg List.length h.2
    simp at hl
    omega

set_option maxHeartbeats 2000000 in
set_option maxRecDepth 100000 in
theorem parse_yes (s : ByteArray) (ls : List Lab) (w : World) (hs : s.size ≤ 281474976710656) (hp : pieces s.data.toList = ls.map textL) (hok : ls.all okLab = true) :
    Calls Tryz.prog 16 #[.string s] w fun e w' => Below w.heap.size w w' ∧ Says ls (newErr ls) e w' := by
  have h0 : 0 < ls.length := by
    refine List.length_pos_iff.2 fun e => ?_
    subst e
    exact pieces_ne _ hp
  have HW := Lib.hid (all_allW hok)
  have hokj : ∀ j, j < ls.length → okLab (lab ls j) = true := fun j hj => List.all_eq_true.1 hok _ (lab_mem hj)
  have HOK := Lib.hid hokj
  have HSTEP : Hid (∀ (k : Nat) (t : List UInt8), k < ls.length → pieces t = (ls.drop k).map textL → headOf 32 t = textL (lab ls k) ∧ ((decide (0 ≤ Lib.indexByte t 32) = true ∧ k + 1 < ls.length ∧ pieces (tailOf 32 t) = (ls.drop (k + 1)).map textL ∧ (tailOf 32 t).length < t.length) ∨ (decide (0 ≤ Lib.indexByte t 32) = false ∧ k + 1 = ls.length))) := fun k t hk ht => piece_step hk ht
  have HP0 : Hid (pieces s.data.toList = (ls.drop 0).map textL) := hp
  clear hp hok hokj
  obtain ⟨n, hnn⟩ : ∃ n, ls.length = n := ⟨_, rfl⟩
  rw [hnn] at h0 HOK HSTEP
  have HTK : Hid (∀ k, k < n → ls.take (k + 1) = ls.take k ++ [lab ls k]) := fun k hk => take_snoc (hnn ▸ hk)
  have HTL : Hid (∀ k, k ≤ n → (ls.take k).length = k) := fun k hk => by rw [List.length_take]; omega
  have HNN := Lib.hid hnn
  clear hnn
  obtain ⟨i0, hi, hz0, hz1, hz2⟩ := info_parts infoL
  go_enter Tryz.func16, Tryz.ntmps16
  go_wp2_with fail
  go_loopw [0, 4, 5] (fun sv lv mv wr => ∃ (k : Nat) (t : List UInt8), k ≤ n ∧ t.length ≤ 281474976710656 ∧ sv = .string ⟨t.toArray⟩ ∧ ((mv = .bool true ∧ k < n ∧ pieces t = (ls.drop k).map textL) ∨ (mv = .bool false ∧ k = n)) ∧ wr.ownsRow w.heap.size 25 2 lv (min k 17) (labCells (ls.take (min k 17))) ∧ Below w.heap.size w wr) (fun sv _ mv _ => meas sv mv)
  case atStart => exact ⟨0, s.data.toList, Nat.zero_le _, by rw [← size_list]; exact hs, by simp, .inl ⟨rfl, h0, HP0.out⟩, by simpa [labCells] using World.ownsRow_nil w _ _ _, Below.refl _ _⟩
  case round =>
    obtain ⟨k, t, hk, ht, rfl, hmore, hown, hb⟩ := hrel
    have HO := Lib.hid hown
    clear hown
    rcases hmore with ⟨rfl, hkn, hpt⟩ | ⟨rfl, rfl⟩
    · obtain ⟨hhead, hrest⟩ := HSTEP.out k t hkn hpt
      have HR := Lib.hid hrest
      have hokk : okL (lab ls k).1 (lab ls k).2 = true := HOK.out k hkn
      have HCUT : Hid (∀ W, Calls Tryz.prog 28 #[.string ⟨t.toArray⟩, .string ⟨#[32]⟩] W fun e w' => e = .returned (.tuple #[.string ⟨(headOf 32 t).toArray⟩, .string ⟨(tailOf 32 t).toArray⟩, .bool (decide (0 ≤ Lib.indexByte t 32))]) ∧ Below W.heap.size W w') := fun W => cutx ⟨t.toArray⟩ 32 W (by rw [list_size]; exact ht)
      have HPA : Hid (∀ W, Calls Tryz.prog 29 #[.string ⟨(headOf 32 t).toArray⟩] W fun e w' => e = .returned (.tuple #[.agg #[.int .i64 (lab ls k).1, .int .u32 (lab ls k).2], .nilIface]) ∧ Below W.heap.size W w') := fun W => by rw [hhead]; exact parse9_yes _ _ W hokk
      have htl := tail_le t
      have htk := HTL.out k hk
      have HT1 := Lib.hid (HTK.out k hkn)
      have hcells : ∀ x : List Lab, labCells x ++ [.int .i64 (lab ls k).1, .int .u32 (lab ls k).2] = labCells (x ++ [lab ls k]) := fun x => cells_snoc x _
      have HCS := Lib.hid hcells
      clear hpt hhead hrest hokk hcells htk
      generalize headOf 32 t = T at *
      generalize tailOf 32 t = T' at *
      generalize decide (0 ≤ Lib.indexByte t 32) = f at *
      generalize (lab ls k).1 = r at *
      generalize (lab ls k).2 = cc at *
      go_wp2_with fail
      refine (HCUT.out _).mono ?_
      rintro e w1 ⟨rfl, hb1⟩
      go_wp2_with fail
      refine (HPA.out _).mono ?_
      rintro e w2 ⟨rfl, hb2⟩
      have hb3 : Below w.heap.size w w2 := hb.trans ((hb1.trans (hb2.mono hb1.size)).mono hb.size)
      have HO2 := Lib.hid (owns_on (owns_on HO.out hb1) hb2)
      have hsz := hb3.size
      have HREL : Hid (((Value.bool f = .bool true ∧ k + 1 < n ∧ pieces T' = (ls.drop (k + 1)).map textL) ∨ (Value.bool f = .bool false ∧ k + 1 = n)) ∧ meas (.string ⟨T'.toArray⟩) (.bool f) < meas (.string ⟨t.toArray⟩) (.bool true)) := by
        rcases HR.out with ⟨a1, a2, a3, a4⟩ | ⟨a1, a2⟩
        · exact ⟨.inl ⟨by rw [a1], a2, a3⟩, by rw [a1]; simp only [meas, list_size]; omega⟩
        · exact ⟨.inr ⟨by rw [a1], a2⟩, by rw [a1]; simp only [meas]; omega⟩
      clear HR HCUT HPA hb1 hb2 HO
      by_cases h16 : k ≤ 16
      · have hmin : min k 17 = k := by omega
        have hmin2 : min (k + 1) 17 = k + 1 := by omega
        rw [hmin] at HO2
        obtain ⟨a4, c4, rfl⟩ := row_shape HO2.out
        have HM2 := Lib.hid hmin2
        clear hmin hmin2
        go_wp2_with (first
          | (at_builtin; refine wpList_append_own _ rfl _ _ 22 rfl w.heap.size 25 i0 (.agg #[.int .i64 0, .int .u32 0]) 2 16 Tryz.underlying22 hi hz0 hz1 hz2 rfl (by decide) _ _ _ rfl ((HO2.out.alloc _).alloc _) ⟨w2.heap.size + 1, 0, none⟩ 1 1 [.int .i64 r, .int .u32 cc] rfl rfl (by have := pair_cell (w2.alloc (.cells #[.int .i64 r, .int .u32 cc] 25)) r cc 25; simpa using this) (pair_one r cc) (by unfold maxLen; omega) (by omega) (by simp; omega) ?_)
          | go_in)
        intro v' w4 hown' hgrow _
        have hb4 : Below w.heap.size w w4 := ((hb3.alloc hb3.size _).alloc (by simp; omega) _).grown hgrow (by simp; omega) (fun g hg => (HO2.out.lt g hg).1)
        rw [HCS.out, ← HT1.out] at hown'
        have HO3 := Lib.hid hown'
        clear hown' hgrow
        go_wp2
        go_roundw
        case rel => exact ⟨k + 1, T', by omega, by omega, rfl, HREL.out.1, by rw [HM2.out]; exact HO3.out, hb4⟩
        case measure => exact HREL.out.2
      · have hmin : min k 17 = 17 := by omega
        have hmin2 : min (k + 1) 17 = 17 := by omega
        rw [hmin] at HO2
        obtain ⟨a4, c4, rfl⟩ := row_shape HO2.out
        have HM2 := Lib.hid hmin2
        clear hmin hmin2
        have hb4 : Below w.heap.size w (w2.alloc (.cells #[.int .i64 r, .int .u32 cc] 25)) := hb3.alloc hb3.size _
        have HO3 := Lib.hid (HO2.out.alloc (.cells #[.int .i64 r, .int .u32 cc] 25))
        go_wp2_with fail
        go_roundw
        case rel => exact ⟨k + 1, T', by omega, by omega, rfl, HREL.out.1, by rw [HM2.out]; exact HO3.out, hb4⟩
        case measure => exact HREL.out.2
    · have htt : ls.take (min k 17) = ls.take 17 := by
        by_cases h17 : k ≤ 17
        · rw [List.take_of_length_le (by rw [HNN.out]; omega), List.take_of_length_le (by rw [HNN.out]; exact h17)]
        · rw [show min k 17 = 17 by omega]
      have htn : min k 17 = (ls.take 17).length := by rw [List.length_take, HNN.out]; omega
      rw [htt, htn] at HO
      have HST : Hid (∀ e w, Says (ls.take 17) (newErr (ls.take 17)) e w → Says ls (newErr ls) e w) := fun _ _ => says_take
      have haw := allW_take HW.out 17
      clear htt htn
      generalize ls.take 17 = L at *
      obtain ⟨a4, c4, rfl, hin⟩ := labsIn_of HO.out
      have HNEW := Lib.hid (new_ a4 c4 L wr hin haw)
      clear hin haw
      generalize L.length = m at *
      go_wp2_with fail
      refine HNEW.out.mono ?_
      rintro e w2 ⟨hb2, hsays⟩
      obtain ⟨p, er, rfl, hss⟩ := hsays
      have HSS := Lib.hid (HST.out _ _ ⟨p, er, rfl, hss⟩)
      have hb3 : Below w.heap.size w w2 := hb.trans (hb2.mono hb.size)
      clear hss
      go_wp2_with fail
      go_ret2
      exact ⟨hb3, HSS.out⟩
end Go.Proofs.YtoompephogamaaaGreatDoor
