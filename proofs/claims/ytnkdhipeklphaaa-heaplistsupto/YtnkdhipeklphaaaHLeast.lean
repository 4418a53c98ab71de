/- The walk of the program's Least. -/
import Derived.Test.YtnkdhipeklphaaaHLine
namespace Go.Proofs.Ytnkdhipeklphaaa
open Go.RowKit Go.Sort

theorem one_cell' (w : World) (v : Value) (t : TypeId) (B : Nat) (hB : B = w.heap.size) : ∀ j u, [v][j]? = some u → (w.alloc (.cells #[v] t)).cell? ((⟨B, 0, none⟩ : Addr).add j) = some u := by subst hB; exact one_cell w v t
theorem nums_snoc (zs : List Int) (z : Int) : nums zs ++ [.int .i64 z] = nums (zs ++ [z]) := by simp [nums]
theorem OwnN.fr {w w' : World} {N hb base : Nat} {v : Value} {zs : List Int} (h : OwnN w base v zs) (hf : Fr N hb w w') (hne : ∀ g, v.ownBlock = some g → g ≠ hb) : OwnN w' base v zs := by
  refine ⟨h.1, ?_⟩
  rcases h.2 with h1 | ⟨g, cap, cur, e, h1, h2, h3⟩
  · exact .inl h1
  · exact .inr ⟨g, cap, cur, e, h1, hf.keep h2 (hne g (by rw [e]; rfl)) (by decide) (by decide), h3⟩
/-- The ids of those that come first. -/
def ids (l : List Sl) (k : Nat) : List Int := (l.take k).map Sl.id
theorem ids_succ {l : List Sl} {k : Nat} (h : k < l.length) : ids l (k + 1) = ids l k ++ [(l[k]).id] := by
  unfold ids; rw [List.take_succ_eq_append_getElem h, List.map_append]; rfl
theorem ids_len {l : List Sl} {k : Nat} (h : k ≤ l.length) : (ids l k).length = k := by unfold ids; rw [List.length_map, List.length_take]; omega
set_option maxHeartbeats 1000000 in
theorem least_ (a : Option Addr) (L c : Nat) (n : Int) (g : Nat → ByteArray) (w : World) (hin : TextsAt w a L g) (hL : L ≤ 4000000) (m : Nat) (hm : m = (min n (L : Int)).toNat) (l : List Sl) (hl : l = lst g L) :
    Calls Try.prog 7 #[.slice a L c, .int .i64 n] w fun e w' => (∃ v, e = .returned v ∧ OwnN w' w.heap.size v (ids l m)) ∧ Below w.heap.size w w' := by
  obtain ⟨W0, hW0⟩ : ∃ W0, W0 = w.alloc (.cells #[.slice none 0 0] 45) := ⟨_, rfl⟩
  have HB0 : Hid (Below w.heap.size w W0) := by rw [hW0]; exact (Below.refl _ _).alloc (Nat.le_refl _) _
  have HL0 : Hid (Li W0 w.heap.size w.heap.size []) := by rw [hW0]; exact li_new (Nat.le_refl _)
  have hs0 : W0.heap.size = w.heap.size + 1 := by rw [hW0, Deep.nblk_alloc]
  have HW0 := Lib.hid hW0
  have HI := Lib.hid hin
  obtain ⟨i0, hi, hz0, hz1, hz2⟩ := info_parts info3
  obtain ⟨M, hmn⟩ : ∃ M, min n (L : Int) = M := ⟨_, rfl⟩
  have HM : Hid (m = M.toNat ∧ m ≤ L) := by rw [← hmn]; exact ⟨hm, by omega⟩
  have HLS := Lib.hid hl
  clear hin hW0 hm hl
  go_enter Try.func7, Try.ntmps7
  go_wp2_with fail
  rw [← HW0.out]
  go_loopw [11] (fun iv wr => ∃ i : Nat, i ≤ L ∧ iv = .int .i64 i ∧ Hid (Li wr w.heap.size w.heap.size (lst g i) ∧ Below w.heap.size w wr)) (fun iv _ => L - (intOf iv).toNat)
  case atStart => exact ⟨0, Nat.zero_le _, rfl, HL0.out, HB0.out⟩
  case round =>
    obtain ⟨i, hiL, rfl, H⟩ := hrel
    clear HL0 HB0 HW0
    by_cases hlt : i < L
    · have hlt2 : (i : Int) < (L : Int) := by omega
      obtain ⟨b, o, rfl, q0⟩ := (HI.out.on rfl H.out.2) i hlt
      have HS := Lib.hid (slot_ i (g i) wr)
      have hsz := H.out.2.size
      generalize hgi : g i = gi at *
      go_wp2_with fail
      refine HS.out.mono ?_
      rintro e w2 ⟨rfl, hs2, hb2⟩
      have HP := Lib.hid (li_push H.out.1 hb2 (Nat.le_refl _) hsz hs2 (fun y hy => turn_lst hy i (Nat.le_refl _) _) (by rw [len_lst]; omega))
      have HB2 := Lib.hid (below_step H.out.2 hb2)
      clear hs2 hb2 HS q0
      go_wp2_with fail
      refine HP.out.mono ?_
      rintro e w3 ⟨rfl, hl3, hf3⟩
      have HE : Hid (Li w3 w.heap.size w.heap.size (lst g (i + 1)) ∧ Below w.heap.size w w3) := by
        refine ⟨?_, HB2.out.trans (hf3.below HB2.out.size)⟩
        rw [lst, hgi]; exact hl3
      clear hl3 hf3 HP HB2
      go_wp2_with fail
      go_roundw
      case rel => exact ⟨i + 1, by omega, by go_num, HE.out⟩
      case measure => simp [intOf]; omega
    · obtain rfl : i = L := by omega
      have HLL : Hid (l.length = i) := by show l.length = i; rw [HLS.out]; exact len_lst g i
      have H : Hid (Li wr w.heap.size w.heap.size l ∧ Below w.heap.size w wr) := by rw [HLS.out]; exact H.out
      clear HI HLS
      obtain ⟨B0, hB0⟩ : ∃ B0, B0 = wr.heap.size := ⟨_, rfl⟩
      go_wp2_with fail
      go_loopw [8, 27] (fun ov kv wq => ∃ k : Nat, k ≤ m ∧ kv = .int .i64 k ∧ Hid (OwnN wq B0 ov (ids l k) ∧ Li wq w.heap.size w.heap.size (l.drop k) ∧ Below w.heap.size w wq ∧ B0 ≤ wq.heap.size ∧ w.heap.size < B0)) (fun _ kv _ => m - (intOf kv).toNat)
      case atStart => exact ⟨0, Nat.zero_le _, rfl, World.ownsRow_nil _ _ _ _, H.out.1, H.out.2, Nat.le_of_eq hB0, by obtain ⟨v, n', b, S, h1, _⟩ := H.out.1; rw [hB0]; exact blk_lt h1.hdr⟩
      case round =>
        obtain ⟨k, hk, rfl, H2⟩ := hrel
        clear H hB0
        by_cases hlt : k < m
        · have hlt2 : (k : Int) < M := by have := HM.out; omega
          have hkl : k < l.length := by rw [HLL.out]; have := HM.out; omega
          obtain ⟨ho, hl2, hb2, hsz, hqs⟩ := H2.out
          rw [List.drop_eq_getElem_cons hkl] at hl2
          have HT := Lib.hid (li_take hl2)
          have HID : Hid (ids l (k + 1) = ids l k ++ [(l[k]).id]) := ids_succ hkl
          have hil : (ids l k).length = k := ids_len (by omega)
          have HB2 := Lib.hid hb2
          have HO := Lib.hid ho
          generalize l[k] = x at *
          clear ho hl2 hb2 H2
          go_wp2_with fail
          refine HT.out.mono ?_
          rintro e w3 ⟨⟨B, p, rfl, hs3, hNB⟩, hl3, hf3⟩
          obtain ⟨c0, _⟩ := hs3.cells
          have HB3 := Lib.hid (HB2.out.trans (hf3.below HB2.out.size))
          have hs3' := hf3.size
          have HO3 : Hid (OwnN w3 B0 u8 (ids l k)) := HO.out.fr hf3 (fun g' hg' e => by
            have := (World.ownsRow.lt HO.out g' hg').1
            omega)
          have HL3 := Lib.hid hl3
          generalize hxi : x.id = xi at *
          clear hs3 hf3 hl3 HT HO
          go_wp2_with (first
            | (at_builtin; refine wpList_append_own _ rfl _ _ 26 rfl B0 3 i0 (.int .i64 0) 1 8 Try.underlying26 hi hz0 hz1 hz2 rfl (by decide) _ _ _ rfl (World.ownsRow.alloc HO3.out _) ⟨w3.heap.size, 0, none⟩ 1 1 [.int .i64 xi] rfl rfl (one_cell _ _ _) (one_num _) (by unfold maxLen; omega) (by omega) (by simp; omega) ?_)
            | fail)
          intro v' w4 hown hgrow _
          have HE : Hid (OwnN w4 B0 v' (ids l (k + 1)) ∧ Li w4 w.heap.size w.heap.size (l.drop (k + 1)) ∧ Below w.heap.size w w4 ∧ B0 ≤ w4.heap.size ∧ w.heap.size < B0) := by
            have hbA : Below w3.heap.size w3 (w3.alloc (.cells #[.int .i64 xi] 3)) := (Below.refl _ _).alloc (Nat.le_refl _) _
            have hgB : Below B0 w3 w4 := (hbA.mono (by omega)).grown hgrow (by simp; omega) (fun g' hg' => (World.ownsRow.lt HO3.out g' hg').1)
            refine ⟨?_, ?_, HB3.out.trans (hgB.mono (by omega)), by have := hgB.size; omega, hqs⟩
            · rw [HID.out]
              unfold OwnN
              rw [← nums_snoc, List.length_append, List.length_singleton, hil]
              exact hown
            · exact li_grown HL3.out HO3.out (by decide) (by decide) (by decide) hgrow
          clear hown hgrow
          go_wp2_with fail
          go_roundw
          case rel => exact ⟨k + 1, by omega, by go_num, HE.out⟩
          case measure => simp [intOf]; omega
        · obtain rfl : k = m := by omega
          have hlt2 : ¬ (k : Int) < M := by have := HM.out; omega
          obtain ⟨ho, _, hb, hsz, hqs⟩ := H2.out
          have HE : Hid (OwnN wr w.heap.size u8 (ids l k) ∧ Below w.heap.size w wr) := by
            refine ⟨⟨ho.1, ?_⟩, hb⟩
            rcases ho.2 with h1 | ⟨g', cap, cur, e, h1, h2⟩
            · exact .inl h1
            · exact .inr ⟨g', cap, cur, e, by omega, h2⟩
          clear ho hb H2
          go_wp2_with fail
          go_ret
          exact ⟨⟨_, rfl, HE.out.1⟩, HE.out.2⟩
end Go.Proofs.Ytnkdhipeklphaaa
