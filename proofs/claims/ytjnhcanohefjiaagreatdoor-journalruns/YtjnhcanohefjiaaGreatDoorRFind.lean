/- The walk of the document's find. -/
import Derived.Test.YtjnhcanohefjiaaGreatDoorRWalk1
namespace Go.Proofs.YtjnhcanohefjiaaGreatDoor
open Go.RowKit Go.Sort Go.Maps

/-- Where a sector stands in the list, or where it belongs. -/
structure FindIs (l : List RS) (k : Pl) (i : Nat) (is : Bool) : Prop where
  le : i ≤ l.length
  lt : ∀ x ∈ l.take i, ltP x.key k
  ge : ∀ h : i < l.length, ¬ ltP l[i].key k
  is : is = true ↔ ∃ h : i < l.length, l[i].key = k
set_option maxRecDepth 100000 in
set_option maxHeartbeats 4000000 in
theorem rfind_ (r s lf : Int) (cr ar : Bool) (a : Option Addr) (L c : Nat) (l : List RS) (g j : Int) (w : World) (hL : L = l.length) (h : SecsIn w a l) (hl : L ≤ 1000000) :
    Calls Tryz.prog 56 #[.agg #[.int .i64 r, .int .i64 s, .slice a L c, .bool cr, .bool ar, .int .i64 lf], .int .i64 g, .int .i64 j] w fun e w' => (∃ (i : Nat) (is : Bool), e = .returned (.tuple #[.int .i64 (i : Int), .bool is]) ∧ FindIs l (g, j) i is) ∧ Below w.heap.size w w' := by
  obtain ⟨W, hW⟩ : ∃ W, W = w.alloc (.cells #[.int .i64 r, .int .i64 s, .slice a L c, .bool cr, .bool ar, .int .i64 lf] 33) := ⟨_, rfl⟩
  have hB : Below w.heap.size w W := by rw [hW]; exact below_alloc w _
  have hg : W.heap[w.heap.size]? = some (.cells #[.int .i64 r, .int .i64 s, .slice a L c, .bool cr, .bool ar, .int .i64 lf] 33 (0, 0)) := by rw [hW]; exact alloc_at w _
  have c2 : W.cell? ⟨w.heap.size, 2, none⟩ = some (.slice a L c) := cell_of hg rfl
  have HI := Lib.hid (h.on hB)
  have HL := Lib.hid hL
  have HB := Lib.hid hB
  have HW := Lib.hid hW
  clear h hL hB hg hW
  go_enter Tryz.func56, Tryz.ntmps56
  go_wp2_with fail
  rw [← HW.out]
  clear HW
  go_loopw [8] (fun iv wr => ∃ i : Nat, i ≤ L ∧ iv = .int .i64 i ∧ wr = W ∧ Hid (∀ x ∈ l.take i, ltP x.key (g, j))) (fun iv _ => L - (intOf iv).toNat)
  case atStart => exact ⟨0, Nat.zero_le _, rfl, rfl, fun y hy => by simp at hy⟩
  case round =>
    obtain ⟨i, hi, rfl, rfl, HN⟩ := hrel
    by_cases hlt : i < L
    · have hlt2 : (i : Int) < (L : Int) := by omega
      have hi2 : i < l.length := by rw [← HL.out]; exact hlt
      obtain ⟨b, o, rfl, hs⟩ := HI.out i hi2
      obtain ⟨q0, q1, _, _, _⟩ := hs.cells
      clear hs
      have HS1 : Hid (ltP (l[i]).key (g, j) → ∀ x ∈ l.take (i + 1), ltP x.key (g, j)) := by
        intro hx x hm
        rw [List.take_succ_eq_append_getElem hi2] at hm
        rcases List.mem_append.1 hm with hm | hm
        · exact HN.out x hm
        · simp at hm; subst hm; exact hx
      have HE1 : Hid (∀ is : Bool, ¬ ltP (l[i]).key (g, j) → (is = true ↔ (l[i]).key = (g, j)) → FindIs l (g, j) i is) := fun is hn his => ⟨by omega, HN.out, fun _ => hn, his.trans ⟨fun e => ⟨hi2, e⟩, fun ⟨_, e⟩ => e⟩⟩
      generalize hkk : (l[i]).key = kk at *
      obtain ⟨x1, x2⟩ := kk
      simp only at q0 q1
      clear hkk HN HI
      by_cases h1 : x1 < g
      · have k1 : decide (x1 < g) = true := decide_eq_true h1
        have HN1 := Lib.hid (HS1.out (.inl h1))
        clear HS1 HE1
        go_wp2_with fail
        go_roundw
        case rel => exact ⟨i + 1, by omega, by go_num, trivial, HN1⟩
        case measure => simp [intOf]; omega
      · have k1 : decide (x1 < g) = false := decide_eq_false h1
        by_cases h2 : x1 = g
        · have k2 : (x1 == g) = true := by simpa using h2
          by_cases h3 : x2 < j
          · have k3 : decide (x2 < j) = true := decide_eq_true h3
            have HN1 := Lib.hid (HS1.out (.inr ⟨h2, h3⟩))
            clear HS1 HE1 h2
            go_wp2_with fail
            go_roundw
            case rel => exact ⟨i + 1, by omega, by go_num, trivial, HN1⟩
            case measure => simp [intOf]; omega
          · have k3 : decide (x2 < j) = false := decide_eq_false h3
            have HF : Hid (FindIs l (g, j) i (x2 == j)) := HE1.out _ (by unfold ltP; simp only; omega) (by simp only [beq_iff_eq, Prod.mk.injEq]; omega)
            clear HS1 HE1 h2
            generalize hbb : (x2 == j) = bb at *
            go_wp2_with fail
            go_quiet (fail)
            have HB1 := Lib.hid (below_drewN HB.out nq)
            go_wp2_with fail
            go_ret2
            exact ⟨⟨i, bb, rfl, HF.out⟩, HB1.out⟩
        · have k2 : (x1 == g) = false := by simpa using h2
          have HF : Hid (FindIs l (g, j) i false) := HE1.out _ (by unfold ltP; simp only; omega) (by simp only [Bool.false_eq_true, false_iff, Prod.mk.injEq]; omega)
          clear HS1 HE1 h2
          go_wp2_with fail
          go_quiet (fail)
          have HB1 := Lib.hid (below_drewN HB.out nq)
          go_wp2_with fail
          go_ret2
          exact ⟨⟨i, false, rfl, HF.out⟩, HB1.out⟩
    · obtain rfl : i = L := by omega
      have HF : Hid (FindIs l (g, j) i false) := ⟨by have := HL.out; omega, HN.out, fun h => by have := HL.out; omega, by simp only [Bool.false_eq_true, false_iff, not_exists]; intro h; have := HL.out; omega⟩
      go_wp2_with fail
      go_quiet (fail)
      have HB1 := Lib.hid (below_drewN HB.out nq)
      go_wp2_with fail
      go_ret2
      exact ⟨⟨i, false, rfl, HF.out⟩, HB1.out⟩
end Go.Proofs.YtjnhcanohefjiaaGreatDoor
