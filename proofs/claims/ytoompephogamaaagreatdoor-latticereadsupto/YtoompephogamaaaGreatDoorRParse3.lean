/- The walk of the document's own Parse of a lattice at a text with a piece that is no label's. -/
import Derived.Test.YtoompephogamaaaGreatDoorRParse2
namespace Go.Proofs.YtoompephogamaaaGreatDoor
open Go.RowKit Go.Sort

set_option maxHeartbeats 4000000 in
set_option maxRecDepth 100000 in
theorem r2Parse_no (s : ByteArray) (w : World) (hs : s.size ≤ 1048576) (hp : ∃ p ∈ pieces s.data.toList, ¬ Readable p) :
    Calls Tryz.prog 17 #[.string s] w fun e w' => Below w.heap.size w w' ∧ ∃ v, e = .returned (.tuple #[v, .int .i64 3]) := by
  obtain ⟨t, ht⟩ : ∃ t, t = s.data.toList := ⟨_, rfl⟩
  have HP0 : Hid (∃ p ∈ pieces (t.drop 0), ¬ Readable p) := by rw [ht]; exact hp
  have HSTEP : Hid (∀ f i : Nat, f ≤ i → (∃ p ∈ pieces (t.drop f), ¬ Readable p) → (32 : UInt8) ∉ cutT t f i → Readable (cutT t f i) → (t[i]? = some 32 → ∃ p ∈ pieces (t.drop (i + 1)), ¬ Readable p) ∧ (i = t.length → False)) := fun f i hf h hn hr => bad_step hf h hn hr
  have hsz : s.size = t.length := by rw [ht]; exact size_list s
  have HSZ := Lib.hid hsz
  have HEXT : Hid (∀ f i, s.extract f i = ⟨(cutT t f i).toArray⟩) := fun f i => by rw [ht]; exact cut_ext s f i
  have HGET : Hid (∀ i (h : i < s.size), t[i]? = some s[i]) := fun i h => by
    rw [ht, List.getElem?_eq_getElem (by rw [← size_list]; exact h)]
    rfl
  have HPY : Hid (∀ (a : Lab) (f i : Nat) (W : World), okLab a = true → textL a = cutT t f i → Calls Tryz.prog 30 #[.string (s.extract f i)] W fun e w' => e = .returned (.tuple #[.agg #[.int .i64 a.1, .int .u32 a.2], .int .i64 0]) ∧ Below W.heap.size W w') := fun a f i W ha he => by rw [HEXT.out, ← he]; exact parse10_yes _ _ W ha
  have HPN : Hid (∀ (f i : Nat) (W : World), ¬ Readable (cutT t f i) → Calls Tryz.prog 30 #[.string (s.extract f i)] W fun e w' => e = .returned (.tuple #[.agg #[.int .i64 0, .int .u32 0], .int .i64 3]) ∧ Below W.heap.size W w') := fun f i W hn => by
    rw [HEXT.out]
    refine parse10_no _ W ?_ fun r c h1 h2 => hn ⟨(r, c), h1, h2⟩
    rw [list_size]
    unfold cutT
    rw [List.length_take, List.length_drop, ← HSZ.out]
    omega
  clear hp ht hsz
  obtain ⟨i0, hi, hz0, hz1, hz2⟩ := info_parts infoL
  go_enter Tryz.func17, Tryz.ntmps17
  go_wp2_with fail
  go_loopw [4, 5, 6] (fun lv fv iv wr => ∃ (L : List Lab) (f i : Nat), L.length ≤ i ∧ fv = .int .i64 f ∧ iv = .int .i64 i ∧ i ≤ s.size ∧ f ≤ i ∧ (32 : UInt8) ∉ cutT t f i ∧ (∃ p ∈ pieces (t.drop f), ¬ Readable p) ∧ wr.ownsRow w.heap.size 25 2 lv L.length (labCells L) ∧ Below w.heap.size w wr) (fun _ _ iv _ => s.size + 1 - (intOf iv).toNat)
  case atStart => exact ⟨[], 0, 0, Nat.zero_le _, rfl, rfl, Nat.zero_le _, Nat.le_refl _, cut_none _ _, HP0.out, World.ownsRow_nil _ _ _ _, Below.refl _ _⟩
  case round =>
    obtain ⟨L, f, i, hki, rfl, rfl, his, hfi, hno, hpc, hown, hb⟩ := hrel
    have HO := Lib.hid hown
    have HNO := Lib.hid hno
    have HPC := Lib.hid hpc
    have HGI : Hid (∀ h : i < s.size, t[i]? = some (s[i]'h)) := HGET.out i
    have hfs : (f : Int) ≤ (i : Int) := by omega
    have HRD : Hid (Readable (cutT t f i) → (t[i]? = some 32 → ∃ p ∈ pieces (t.drop (i + 1)), ¬ Readable p) ∧ (i = t.length → False)) := fun hr => HSTEP.out f i hfi hpc hno hr
    have HPYi : Hid (∀ (a : Lab) (W : World), okLab a = true → textL a = cutT t f i → Calls Tryz.prog 30 #[.string (s.extract f i)] W fun e w' => e = .returned (.tuple #[.agg #[.int .i64 a.1, .int .u32 a.2], .int .i64 0]) ∧ Below W.heap.size W w') := fun a W => HPY.out a f i W
    have HPNi : Hid (¬ Readable (cutT t f i) → ∀ (W : World), Calls Tryz.prog 30 #[.string (s.extract f i)] W fun e w' => e = .returned (.tuple #[.agg #[.int .i64 0, .int .u32 0], .int .i64 3]) ∧ Below W.heap.size W w') := fun h W => HPN.out f i W h
    clear hown hno hpc
    by_cases hend : i = s.size
    · have hend' : (i : Int) = (s.size : Int) := by omega
      have hnr : ¬ Readable (cutT t f i) := fun hr => (HRD.out hr).2 (by rw [← HSZ.out]; exact hend)
      have HPK := Lib.hid (HPNi.out hnr)
      clear hnr HRD HPYi HPNi HGI HNO HPC
      subst hend
      go_wp2_with fail
      refine (HPK.out _).mono ?_
      rintro e w2 ⟨rfl, hb2⟩
      have hb3 : Below w.heap.size w w2 := hb.trans (hb2.mono hb.size)
      clear HPK hb2
      have hb4 : Below w.heap.size w (w2.alloc (.cells #[.int .i64 0, .int .u32 0] 25)) := hb3.alloc hb3.size _
      go_wp2_with fail
      go_ret2
      exact ⟨hb4, _, rfl⟩
    · have hlt : i < s.size := by omega
      have hend' : ¬ (i : Int) = (s.size : Int) := by omega
      have qe : ((i : Int) == (s.size : Int)) = false := beq_false_of_ne hend'
      by_cases hbl : s[i] = 32
      · have hbn : (s[i].toNat : Int) = 32 := by rw [hbl]; rfl
        have qb : ((s[i].toNat : Int) == 32) = true := by rw [hbn]; rfl
        have HT32 : Hid (t[i]? = some 32) := by unfold Hid; rw [HGI.out hlt, hbl]
        clear hbl HGI
        by_cases hr : Readable (cutT t f i)
        · have HNX := Lib.hid ((HRD.out hr).1 HT32.out)
          obtain ⟨⟨r, cc⟩, ha, hta⟩ := hr
          have HPK : Hid (∀ W, Calls Tryz.prog 30 #[.string (s.extract f i)] W fun e w' => e = .returned (.tuple #[.agg #[.int .i64 r, .int .u32 cc], .int .i64 0]) ∧ Below W.heap.size W w') := fun W => HPYi.out (r, cc) W ha hta
          have hcells : labCells L ++ [.int .i64 r, .int .u32 cc] = labCells (L ++ [(r, cc)]) := cells_snoc L (r, cc)
          have HCS := Lib.hid hcells
          have hll : (L ++ [(r, cc)]).length = L.length + 1 := by simp
          have HLL := Lib.hid hll
          clear HRD HPYi HPNi ha hta hcells hll HPC HNO
          generalize L ++ [(r, cc)] = L2 at *
          obtain ⟨k, hk⟩ : ∃ k, L.length = k := ⟨_, rfl⟩
          rw [hk] at hki HO HLL
          clear hk
          go_wp2_with fail
          refine (HPK.out _).mono ?_
          rintro e w2 ⟨rfl, hb2⟩
          have hb3 : Below w.heap.size w w2 := hb.trans (hb2.mono hb.size)
          have HO2 := Lib.hid (owns_on HO.out hb2)
          have hsz := hb3.size
          obtain ⟨a4, c4, rfl⟩ := row_shape HO2.out
          clear HPK hb2 HO
          go_wp2_with (first
            | (at_builtin; refine wpList_append_own _ rfl _ _ 22 rfl w.heap.size 25 i0 (.agg #[.int .i64 0, .int .u32 0]) 2 16 Tryz.underlying22 hi hz0 hz1 hz2 rfl (by decide) _ _ _ rfl ((HO2.out.alloc _).alloc _) ⟨w2.heap.size + 1, 0, none⟩ 1 1 [.int .i64 r, .int .u32 cc] rfl rfl (by have := pair_cell (w2.alloc (.cells #[.int .i64 r, .int .u32 cc] 25)) r cc 25; simpa using this) (pair_one r cc) (by unfold maxLen; omega) (by omega) (by simp; omega) ?_)
            | go_in)
          intro v' w4 hown' hgrow _
          have hb4 : Below w.heap.size w w4 := ((hb3.alloc hb3.size _).alloc (by simp; omega) _).grown hgrow (by simp; omega) (fun g hg => (HO2.out.lt g hg).1)
          rw [HCS.out, ← HLL.out] at hown'
          have HO3 := Lib.hid hown'
          clear hown' hgrow
          go_wp2
          go_roundw
          case rel => exact ⟨L2, _, _, by rw [HLL.out]; omega, by go_num, by go_num, by omega, Nat.le_refl _, cut_none _ _, HNX.out, HO3.out, hb4⟩
          case measure => simp [intOf]; omega
        · have HPK := Lib.hid (HPNi.out hr)
          clear hr HRD HPYi HPNi HPC HNO
          go_wp2_with fail
          refine (HPK.out _).mono ?_
          rintro e w2 ⟨rfl, hb2⟩
          have hb3 : Below w.heap.size w w2 := hb.trans (hb2.mono hb.size)
          clear HPK hb2
          have hb4 : Below w.heap.size w (w2.alloc (.cells #[.int .i64 0, .int .u32 0] 25)) := hb3.alloc hb3.size _
          go_wp2_with fail
          go_ret2
          exact ⟨hb4, _, rfl⟩
      · have HX := Lib.hid (cut_grow hfi (HGI.out hlt) hbl HNO.out)
        have hbn : ¬ (s[i].toNat : Int) = 32 := fun e => hbl (UInt8.toNat_inj.1 (by show s[i].toNat = 32; omega))
        have qb : ((s[i].toNat : Int) == 32) = false := beq_false_of_ne hbn
        clear HRD HPYi HPNi HGI hbl
        go_wp2_with fail
        go_roundw
        case rel => exact ⟨L, f, _, by omega, rfl, by go_num, by omega, by omega, HX.out, HPC.out, HO.out, hb⟩
        case measure => simp [intOf]; omega
end Go.Proofs.YtoompephogamaaaGreatDoor
