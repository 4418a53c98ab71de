/- The walk of lattice.Parse at a text with a piece that is no label's. -/
import Derived.Test.YtoompephogamaaaGreatDoorRParse
namespace Go.Proofs.YtoompephogamaaaGreatDoor
open Go.RowKit Go.Sort

theorem piece_bad {t : List UInt8} (h : ∃ p ∈ pieces t, ¬ Readable p) (hr : Readable (headOf 32 t)) : decide (0 ≤ Lib.indexByte t 32) = true ∧ (∃ p ∈ pieces (tailOf 32 t), ¬ Readable p) ∧ (tailOf 32 t).length < t.length := by
  obtain ⟨p, hp, hb⟩ := h
  by_cases hm : (32 : UInt8) ∈ t
  · rw [pieces_more t hm] at hp
    rcases List.mem_cons.1 hp with e | hp
    · exact absurd (e ▸ hr) hb
    · exact ⟨decide_eq_true ((index_mem _ _).2 hm), ⟨p, hp, hb⟩, tail_lt hm⟩
  · rw [pieces_last t hm] at hp
    rcases List.mem_cons.1 hp with e | hp
    · rw [head_last hm] at hr
      exact absurd (e ▸ hr) hb
    · simp at hp

set_option maxHeartbeats 2000000 in
set_option maxRecDepth 100000 in
theorem parse_no (s : ByteArray) (w : World) (hs : s.size ≤ 281474976710656) (hv : Vars w) (hp : ∃ p ∈ pieces s.data.toList, ¬ Readable p) :
    Calls Tryz.prog 16 #[.string s] w fun e w' => Below w.heap.size w w' ∧ e = .returned (.tuple #[.pointer none, .iface 49 (.int .i64 3)]) := by
  have HP0 := Lib.hid hp
  have HV : Hid (∀ W, Below w.heap.size w W → Vars W) := fun W hW => hv.on hW
  clear hp hv
  obtain ⟨i0, hi, hz0, hz1, hz2⟩ := info_parts infoL
  go_enter Tryz.func16, Tryz.ntmps16
  go_wp2_with fail
  go_loopw [0, 4, 5] (fun sv lv mv wr => ∃ (L : List Lab) (t : List UInt8), L.length ≤ 17 ∧ t.length ≤ 281474976710656 ∧ sv = .string ⟨t.toArray⟩ ∧ mv = .bool true ∧ (∃ p ∈ pieces t, ¬ Readable p) ∧ wr.ownsRow w.heap.size 25 2 lv L.length (labCells L) ∧ Below w.heap.size w wr) (fun sv _ mv _ => meas sv mv)
  case atStart => exact ⟨[], s.data.toList, Nat.zero_le _, by rw [← size_list]; exact hs, by simp, rfl, HP0.out, World.ownsRow_nil w _ _ _, Below.refl _ _⟩
  case round =>
    obtain ⟨L, t, hL, ht, rfl, rfl, hbad, hown, hb⟩ := hrel
    have HO := Lib.hid hown
    clear hown
    have HCUT : Hid (∀ W, Calls Tryz.prog 28 #[.string ⟨t.toArray⟩, .string ⟨#[32]⟩] W fun e w' => e = .returned (.tuple #[.string ⟨(headOf 32 t).toArray⟩, .string ⟨(tailOf 32 t).toArray⟩, .bool (decide (0 ≤ Lib.indexByte t 32))]) ∧ Below W.heap.size W w') := fun W => cutx ⟨t.toArray⟩ 32 W (by rw [list_size]; exact ht)
    have hhl := head_le t
    have htl := tail_le t
    by_cases hr : Readable (headOf 32 t)
    · obtain ⟨hf, hbad2, hlt⟩ := piece_bad hbad hr
      obtain ⟨⟨r, cc⟩, ha, hta⟩ := hr
      have HPA : Hid (∀ W, Calls Tryz.prog 29 #[.string ⟨(headOf 32 t).toArray⟩] W fun e w' => e = .returned (.tuple #[.agg #[.int .i64 r, .int .u32 cc], .nilIface]) ∧ Below W.heap.size W w') := fun W => by rw [← hta]; exact parse9_yes _ _ W ha
      have HB2 := Lib.hid hbad2
      rw [hf] at HCUT
      have HLT := Lib.hid hlt
      have hcells : labCells L ++ [.int .i64 r, .int .u32 cc] = labCells (L ++ [(r, cc)]) := cells_snoc L (r, cc)
      have HCS := Lib.hid hcells
      have hll : (L ++ [(r, cc)]).length = L.length + 1 := by simp
      have HLL := Lib.hid hll
      clear hbad hbad2 hlt ha hta hf hcells hll hhl
      generalize headOf 32 t = T at *
      generalize tailOf 32 t = T' at *
      generalize L ++ [(r, cc)] = L2 at *
      obtain ⟨k, hk⟩ : ∃ k, L.length = k := ⟨_, rfl⟩
      have HLK := Lib.hid hk
      rw [hk] at hL HO HLL
      clear hk
      go_wp2_with fail
      refine (HCUT.out _).mono ?_
      rintro e w1 ⟨rfl, hb1⟩
      go_wp2_with fail
      refine (HPA.out _).mono ?_
      rintro e w2 ⟨rfl, hb2⟩
      have hb3 : Below w.heap.size w w2 := hb.trans ((hb1.trans (hb2.mono hb1.size)).mono hb.size)
      have HO2 := Lib.hid (owns_on (owns_on HO.out hb1) hb2)
      have hsz := hb3.size
      have HM : Hid (meas (.string ⟨T'.toArray⟩) (.bool true) < meas (.string ⟨t.toArray⟩) (.bool true)) := by
        unfold Hid
        have := HLT.out
        simp only [meas, list_size]
        omega
      obtain ⟨a4, c4, rfl⟩ := row_shape HO2.out
      clear HCUT HPA hb1 hb2 HO
      by_cases h16 : k ≤ 16
      · have hk16 : (k : Int) ≤ 16 := by omega
        go_wp2_with (first
          | (at_builtin; refine wpList_append_own _ rfl _ _ 22 rfl w.heap.size 25 i0 (.agg #[.int .i64 0, .int .u32 0]) 2 16 Tryz.underlying22 hi hz0 hz1 hz2 rfl (by decide) _ _ _ rfl ((HO2.out.alloc _).alloc _) ⟨w2.heap.size + 1, 0, none⟩ 1 1 [.int .i64 r, .int .u32 cc] rfl rfl (by have := pair_cell (w2.alloc (.cells #[.int .i64 r, .int .u32 cc] 25)) r cc 25; simpa using this) (pair_one r cc) (by unfold maxLen; omega) (by omega) (by simp; omega) ?_)
          | go_in)
        intro v' w4 hown' hgrow _
        have hb4 : Below w.heap.size w w4 := ((hb3.alloc hb3.size _).alloc (by simp; omega) _).grown hgrow (by simp; omega) (fun g hg => (HO2.out.lt g hg).1)
        rw [HCS.out, ← HLL.out] at hown'
        have HO3 := Lib.hid hown'
        clear hown' hgrow
        go_wp2
        go_roundw
        case rel => exact ⟨L2, T', by rw [HLL.out]; omega, by omega, rfl, rfl, HB2.out, HO3.out, hb4⟩
        case measure => exact HM.out
      · have hb4 : Below w.heap.size w (w2.alloc (.cells #[.int .i64 r, .int .u32 cc] 25)) := hb3.alloc hb3.size _
        have HO3 := Lib.hid (HO2.out.alloc (.cells #[.int .i64 r, .int .u32 cc] 25))
        go_wp2_with fail
        go_roundw
        case rel => exact ⟨L, T', by rw [HLK.out]; omega, by omega, rfl, rfl, HB2.out, by rw [HLK.out]; exact HO3.out, hb4⟩
        case measure => exact HM.out
    · have HPA : Hid (∀ W, Vars W → Calls Tryz.prog 29 #[.string ⟨(headOf 32 t).toArray⟩] W fun e w' => e = .returned (.tuple #[.agg #[.int .i64 0, .int .u32 0], .iface 49 (.int .i64 3)]) ∧ Below W.heap.size W w') := fun W hvW => parse9_no _ W (by rw [list_size]; omega) hvW fun r c h1 h2 => hr ⟨(r, c), h1, h2⟩
      clear hr hbad hhl htl
      generalize headOf 32 t = T at *
      generalize tailOf 32 t = T' at *
      generalize decide (0 ≤ Lib.indexByte t 32) = f at *
      go_wp2_with fail
      refine (HCUT.out _).mono ?_
      rintro e w1 ⟨rfl, hb1⟩
      have hbw1 : Below w.heap.size w w1 := hb.trans (hb1.mono hb.size)
      have HVW := Lib.hid (HV.out w1 hbw1)
      go_wp2_with fail
      refine (HPA.out _ HVW.out).mono ?_
      rintro e w2 ⟨rfl, hb2⟩
      have hb3 : Below w.heap.size w w2 := hbw1.trans (hb2.mono hbw1.size)
      have hb4 : Below w.heap.size w (w2.alloc (.cells #[.int .i64 0, .int .u32 0] 25)) := hb3.alloc hb3.size _
      clear HCUT HPA HVW hb1 hb2 HO
      go_wp2_with fail
      go_ret2
      exact ⟨hb4, rfl⟩
end Go.Proofs.YtoompephogamaaaGreatDoor
