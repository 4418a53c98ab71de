/- lattice.New told in one sentence; texts cut at blanks. -/
import Derived.Test.YtoompephogamaaaGreatDoorNew2
import Derived.Test.YtoompephogamaaaGreatDoorW5
namespace Go.Proofs.YtoompephogamaaaGreatDoor
open Go.RowKit Go.Sort

/-- What New and Parse hand back. -/
def Says (ls : List Lab) (k : Int) (e : Ending) (w' : World) : Prop :=
  ∃ p er, e = .returned (.tuple #[p, er]) ∧ ((k ≠ 0 ∧ p = .pointer none ∧ er = .iface 49 (.int .i64 k)) ∨ (k = 0 ∧ er = .nilIface ∧ ∃ q, p = .pointer (some ⟨q, 0, none⟩) ∧ LatIn w' p ls))
theorem newErr_zero {ls : List Lab} (h : newErr ls = 0) : 0 < ls.length ∧ ls.length ≤ 16 ∧ ls.all okLab = true ∧ ls.Nodup := by
  unfold newErr at h
  split at h
  · cases h
  · split at h
    · cases h
    · split at h
      · split at h
        · refine ⟨by omega, by omega, by assumption, by assumption⟩
        · cases h
      · cases h
theorem all_allW {ls : List Lab} (h : ls.all okLab = true) : allW ls := fun a ha => okLab_ok (List.all_eq_true.1 h a ha)

theorem new_ (a : Option Addr) (c : Nat) (ls : List Lab) (w : World) (h : LabsIn w a ls) (hw : allW ls) :
    Calls Tryz.prog 6 #[.slice a ls.length c] w fun e w' => Below w.heap.size w w' ∧ Says ls (newErr ls) e w' := by
  by_cases h0 : ls.length = 0
  · have e : newErr ls = 1 := by unfold newErr; rw [if_pos h0]
    rw [e, h0]
    exact (new_arg a c w).mono fun _ _ ⟨he, hb⟩ => ⟨hb, _, _, he, .inl ⟨by decide, rfl, rfl⟩⟩
  · by_cases h1 : 16 < ls.length
    · have e : newErr ls = 2 := by unfold newErr; rw [if_neg h0, if_pos h1]
      rw [e]
      exact (new_long a _ c w h1).mono fun _ _ ⟨he, hb⟩ => ⟨hb, _, _, he, .inl ⟨by decide, rfl, rfl⟩⟩
    · cases hok : ls.all okLab
      · have e : newErr ls = 20 := by unfold newErr; rw [if_neg h0, if_neg h1, hok]; rfl
        rw [e]
        exact (new_label a c ls w h (by omega) (by omega) hw hok).mono fun _ _ ⟨he, hb⟩ => ⟨hb, _, _, he, .inl ⟨by decide, rfl, rfl⟩⟩
      · refine (new_rest a c ls w h (by omega) (by omega) hok).mono ?_
        rintro e w' ⟨hb, ⟨hd, he⟩ | ⟨hd, q, he, hl⟩⟩
        · have ee : newErr ls = 9 := by unfold newErr; rw [if_neg h0, if_neg h1, hok, if_pos rfl, if_neg hd]
          rw [ee]
          exact ⟨hb, _, _, he, .inl ⟨by decide, rfl, rfl⟩⟩
        · have ee : newErr ls = 0 := by unfold newErr; rw [if_neg h0, if_neg h1, hok, if_pos rfl, if_pos hd]
          rw [ee]
          exact ⟨hb, _, _, he, .inr ⟨rfl, rfl, q, rfl, hl⟩⟩

/-- A text cut at each blank. -/
def pieces : List UInt8 → List (List UInt8)
  | [] => [[]]
  | c :: r => if c = 32 then [] :: pieces r else (c :: (pieces r).headD []) :: (pieces r).tail
theorem pieces_ne : ∀ s, pieces s ≠ []
  | [] => by simp [pieces]
  | c :: r => by unfold pieces; split <;> simp
theorem pieces_last : ∀ s : List UInt8, (32 : UInt8) ∉ s → pieces s = [s]
  | [], _ => rfl
  | c :: r, h => by
    rw [List.mem_cons, not_or] at h
    unfold pieces
    rw [if_neg (fun e => h.1 e.symm), pieces_last r h.2]
    rfl
theorem pieces_more : ∀ s : List UInt8, (32 : UInt8) ∈ s → pieces s = headOf 32 s :: pieces (tailOf 32 s)
  | [], h => by simp at h
  | c :: r, h => by
    by_cases e : c = 32
    · subst e
      have i : Lib.indexByte (32 :: r) 32 = 0 := by simp [Lib.indexByte]
      unfold headOf tailOf
      rw [i]
      simp [pieces]
    · have hr : (32 : UInt8) ∈ r := by
        rcases List.mem_cons.1 h with h | h
        · exact absurd h.symm e
        · exact h
      have ih := pieces_more r hr
      obtain ⟨i0, i1⟩ := index_yes r 32 hr
      have i : Lib.indexByte (c :: r) 32 = Lib.indexByte r 32 + 1 := by
        rw [Lib.indexByte]
        have hce : (c == 32) = false := by simpa using e
        have hi : (Lib.indexByte r 32 == -1) = false := by simp; omega
        rw [hce, hi]; simp
      have e1 : headOf 32 (c :: r) = c :: headOf 32 r := by
        unfold headOf
        rw [i, if_pos (by omega), if_pos i0, show (Lib.indexByte r 32 + 1).toNat = (Lib.indexByte r 32).toNat + 1 by omega]
        rfl
      have e2 : tailOf 32 (c :: r) = tailOf 32 r := by
        unfold tailOf
        rw [i, if_pos (by omega), if_pos i0, show (Lib.indexByte r 32 + 1).toNat = (Lib.indexByte r 32).toNat + 1 by omega]
        rfl
      conv => lhs; unfold pieces
      rw [if_neg e, ih, e1, e2]
      rfl
theorem head_last {s : List UInt8} (h : (32 : UInt8) ∉ s) : headOf 32 s = s := by
  unfold headOf; rw [index_no s 32 h]; rfl
theorem tail_lt {s : List UInt8} (h : (32 : UInt8) ∈ s) : (tailOf 32 s).length < s.length := by
  obtain ⟨i0, i1⟩ := index_yes s 32 h
  unfold tailOf
  rw [if_pos i0, List.length_drop]
  omega
theorem tail_le (s : List UInt8) : (tailOf 32 s).length ≤ s.length := by
  unfold tailOf; split
  · rw [List.length_drop]; omega
  · simp
theorem head_le (s : List UInt8) : (headOf 32 s).length ≤ s.length := by
  unfold headOf; split
  · exact List.length_take_le' _ _
  · exact Nat.le_refl _
def textL (a : Lab) : List UInt8 := textOf a.1 a.2

theorem newErr_take (ls : List Lab) : newErr (ls.take 17) = newErr ls := by
  by_cases h : ls.length ≤ 17
  · rw [List.take_of_length_le h]
  · unfold newErr
    rw [List.length_take, if_neg (by omega), if_pos (by omega), if_neg (by omega), if_pos (by omega)]
end Go.Proofs.YtoompephogamaaaGreatDoor
