/- The walk of (*Lattice).Text. -/
import Derived.Test.YtoompephogamaaaGreatDoorParse
import Derived.Test.YtoompephogamaaaGreatDoorShelf
namespace Go.Proofs.YtoompephogamaaaGreatDoor
open Go.RowKit Go.Sort

def joinL (ls : List Lab) : List UInt8 := Lib.join (ls.map textL) [32]
theorem info9 : (Tryz.prog.info? 9).map (fun i => (i.zero, i.size, i.bytes)) = some (some (.string ⟨#[]⟩), 1, 16) := by kernel_rfl
theorem lens_le : ∀ ls : List Lab, ls.all okLab = true → Lib.lens (ls.map textL) ≤ 29 * ls.length
  | [], _ => by simp [Lib.lens]
  | a :: r, h => by
    simp only [List.all_cons, Bool.and_eq_true] at h
    have h1 : (textL a).length ≤ 29 := text_len h.1
    have h2 := lens_le r h.2
    simp only [List.map_cons, Lib.lens, List.length_cons, List.sum_cons] at *
    omega
theorem join_lim (ls : List Lab) (h : ls.all okLab = true) (hn : ls.length ≤ 16) : (joinL ls).length ≤ 140737488355328 := by
  cases ls with
  | nil => simp [joinL, Lib.join]
  | cons a r =>
    have h2 := lens_le (a :: r) h
    unfold joinL
    rw [List.map_cons, Lib.join_length]
    rw [List.map_cons] at h2
    simp only [List.length_cons, List.length_map, List.length_nil] at *
    omega
theorem row_cells {w : World} {w0 B n : Nat} {xs : List Value} (h : w.ownsRow w0 9 1 (.slice (some ⟨B, 0, none⟩) n n) n xs) : (∀ j, j < n → ∃ u, w.cell? ⟨B, j, none⟩ = some u) ∧ (∀ j, w.frozen? ⟨B, j, none⟩ = false) ∧ B < w.heap.size := by
  rcases h.2 with ⟨e, _⟩ | ⟨g, cap, cur, e, hb, hg, h1, h2, h3, h4⟩
  · cases e
  · simp only [Value.slice.injEq, Option.some.injEq, Addr.mk.injEq] at e
    obtain ⟨⟨rfl, _⟩, _, rfl⟩ := e
    have hlt : B < w.heap.size := (Array.getElem?_eq_some_iff.1 hg).1
    refine ⟨fun j hj => ⟨cur[j]'(by omega), ?_⟩, fun j => ?_, hlt⟩
    · simp [World.cell?, hg, Array.getElem?_eq_getElem (show j < cur.size by omega)]
    · simp [World.frozen?, hg]

theorem set_same {w : World} {a : Addr} {u v : Value} (h : w.cell? a = some u) : (w.setCell a v).cell? a = some v := by
  first | exact World.cell?_setCell_same w a v h | exact World.cell?_setCell_same _ _ _ h
theorem set_other {w : World} {b i j : Nat} {v : Value} (h : j ≠ i) : (w.setCell ⟨b, i, none⟩ v).cell? ⟨b, j, none⟩ = w.cell? ⟨b, j, none⟩ := by
  have hne : (⟨b, i, none⟩ : Addr) ≠ ⟨b, j, none⟩ := by intro e; injection e with e1 e2; exact h e2.symm
  first | exact World.cell?_setCell_other w _ _ v hne | exact World.cell?_setCell_other _ _ _ _ hne | exact World.cell?_setCell_other _ _ _ hne
set_option maxHeartbeats 2000000 in
set_option maxRecDepth 100000 in
theorem text_ (v : Value) (ls : List Lab) (w : World) (h : LatIn w v ls) (hok : ls.all okLab = true) (hn : ls.length ≤ 16) :
    Calls Tryz.prog 14 #[v] w fun e w' => e = .returned (.string ⟨(joinL ls).toArray⟩) ∧ Below w.heap.size w w' := by
  have hlim := join_lim ls hok hn
  have hokj : ∀ j, j < ls.length → okL (lab ls j).1 (lab ls j).2 = true := fun j hj => List.all_eq_true.1 hok _ (lab_mem hj)
  have HOK := Lib.hid hokj
  have HJ : Hid (∀ (W : World) (B : Nat), B < W.heap.size → (∀ j, j < ls.length → W.cell? ⟨B, j, none⟩ = some (.string ⟨(textOf (lab ls j).1 (lab ls j).2).toArray⟩)) → Calls Tryz.prog 26 #[.slice (some ⟨B, 0, none⟩) ls.length ls.length, .string ⟨#[32]⟩] W fun e w' => e = .returned (.string ⟨(joinL ls).toArray⟩) ∧ Below W.heap.size W w') := fun W B hB hc => by
    have e1 : (ls.map fun a => (⟨(textL a).toArray⟩ : ByteArray)).map (·.data.toList) = ls.map textL := by simp
    have := Tryz.strings_Join B 0 ls.length (ls.map fun a => (⟨(textL a).toArray⟩ : ByteArray)) ⟨#[32]⟩ W (fun j x hx => by
      obtain ⟨hj, e⟩ := List.getElem?_eq_some_iff.1 hx
      rw [List.length_map] at hj
      rw [Nat.zero_add, hc j hj, ← e, List.getElem_map]
      unfold lab textL
      rw [List.getD_eq_getElem?_getD, List.getElem?_eq_getElem hj]
      rfl) hB (by rw [List.length_map]; omega) (by rw [List.length_map]; exact Nat.le_refl _) (by rw [e1]; exact hlim)
    rw [e1, List.length_map] at this
    exact this
  have HL : Hid (LatIn w v ls) := h
  clear hokj hok hlim h
  obtain ⟨R, hR⟩ : ∃ R, joinL ls = R := ⟨_, rfl⟩
  rw [hR] at HJ ⊢
  clear hR
  obtain ⟨n, hnn⟩ : ∃ n, ls.length = n := ⟨_, rfl⟩
  have HN : Hid (∀ W, LatIn W v ls → Calls Tryz.prog 13 #[v] W fun e w' => e = .returned (.int .i64 n) ∧ w' = W) := fun W hL => hnn ▸ len_ v ls W hL
  have HNN := Lib.hid hnn
  rw [hnn] at hn HOK HJ
  clear hnn
  obtain ⟨i0, hi, hz0, hz1, hz2⟩ := info_parts info9
  go_enter Tryz.func14, Tryz.ntmps14
  go_wp2_with fail
  refine (HN.out _ HL.out).mono ?_
  rintro e w1 ⟨rfl, rfl⟩
  go_wp2_with (first
    | (at_make; refine wpList_make_full _ rfl _ _ 62 rfl w1.heap.size 9 i0 (.string ⟨#[]⟩) 1 Tryz.underlying62 hi hz0 hz1 .i64 .i64 _ _ n rfl rfl rfl rfl (by rw [hz2]; omega) (by unfold maxLen; omega) (Nat.le_refl _) ?_)
    | go_in)
  intro w2 hown hgrow
  obtain ⟨r1, r2, r3⟩ := row_cells hown
  have hb2 : Below w1.heap.size w1 w2 := (Below.refl _ _).grown hgrow (Nat.le_refl _) (fun k hk => by cases hk)
  have HR1 := Lib.hid r1
  have HR2 := Lib.hid r2
  clear hown hgrow r1 r2
  go_wp2
  go_loopw [10] (fun iv wr => ∃ k : Nat, k ≤ n ∧ iv = .int .i64 k ∧ (∀ j, j < k → wr.cell? ⟨w1.heap.size, j, none⟩ = some (.string ⟨(textOf (lab ls j).1 (lab ls j).2).toArray⟩)) ∧ (∀ j, j < n → ∃ u, wr.cell? ⟨w1.heap.size, j, none⟩ = some u) ∧ (∀ j, wr.frozen? ⟨w1.heap.size, j, none⟩ = false) ∧ w1.heap.size < wr.heap.size ∧ Below w1.heap.size w1 wr) (fun iv _ => n - (intOf iv).toNat)
  case atStart => exact ⟨0, Nat.zero_le _, rfl, fun j hj => by omega, HR1.out, HR2.out, r3, hb2⟩
  case round =>
    obtain ⟨k, hk, rfl, q1, q2, q3, q4, hb⟩ := hrel
    have HQ1 := Lib.hid q1
    have HQ2 := Lib.hid q2
    have HQ3 := Lib.hid q3
    clear q1 q2 q3 hb2 r3
    by_cases hlt : k < n
    · have hokk := HOK.out k hlt
      have HT := Lib.hid (text7_yes (lab ls k).1 (lab ls k).2)
      have HOKK := Lib.hid hokk
      rcases HL.out.on hb with ⟨_, e2⟩ | ⟨p, a, c, m, rfl, h2, h3, _, _⟩
      · have := HNN.out
        rw [e2] at this
        simp at this
        omega
      rw [HNN.out] at h2
      obtain ⟨b, o, rfl, c1, c2⟩ := h3 k (by rw [HNN.out]; exact hlt)
      obtain ⟨u, hu⟩ := HQ2.out k hlt
      have HTX : Hid (∀ X, X = textOf (lab ls k).1 (lab ls k).2 → X = textOf (lab ls k).1 (lab ls k).2) := fun _ h => h
      clear hokk h3
      obtain ⟨T, hT⟩ : ∃ T, T = textOf (lab ls k).1 (lab ls k).2 := ⟨_, rfl⟩
      rw [← hT] at HT
      have HTT : Hid (∀ j, j = k → T = textOf (lab ls j).1 (lab ls j).2) := fun j hj => by rw [hj]; exact hT
      clear hT HTX
      generalize (lab ls k).1 = r at *
      generalize (lab ls k).2 = cc at *
      go_wp2_with fail
      refine (HT.out _ HOKK.out).mono ?_
      rintro e w3 ⟨rfl, hb3⟩
      have cu := (hb3.cell (p := ⟨w1.heap.size, k, none⟩) q4).trans hu
      have cf := (hb3.frozen (p := ⟨w1.heap.size, k, none⟩) q4).trans (HQ3.out k)
      have hb4 : Below w1.heap.size w1 w3 := hb.trans (hb3.mono (by omega))
      go_wp2_with fail
      go_roundw
      case rel =>
        refine ⟨k + 1, by omega, by go_num, fun j hj => ?_, fun j hj => ?_, fun j => ?_, ?_, hb4.setCell (Nat.le_refl _) _⟩
        · by_cases e : j = k
          · subst e
            rw [set_same cu, ← HTT.out j rfl]
          · rw [set_other e, hb3.cell (p := ⟨w1.heap.size, j, none⟩) q4]
            exact HQ1.out j (by omega)
        · by_cases e : j = k
          · subst e
            exact ⟨_, set_same cu⟩
          · rw [set_other e, hb3.cell (p := ⟨w1.heap.size, j, none⟩) q4]
            exact HQ2.out j hj
        · rw [World.frozen?_setCell, hb3.frozen (p := ⟨w1.heap.size, j, none⟩) q4]
          exact HQ3.out j
        · have := hb3.size
          simp
          omega
      case measure => simp [intOf]; omega
    · obtain rfl : k = n := by omega
      go_wp2_with fail
      refine (HJ.out wr w1.heap.size q4 HQ1.out).mono ?_
      rintro e w3 ⟨rfl, hb3⟩
      have hb4 : Below w1.heap.size w1 w3 := hb.trans (hb3.mono hb.size)
      go_wp2_with fail
      go_ret
      exact ⟨rfl, hb4⟩
end Go.Proofs.YtoompephogamaaaGreatDoor
