/- Plain facts on a text cut at its blanks, place by place. No program is in it. -/
import Derived.Test.YtoompephogamaaaGreatDoorParse2
namespace Go.Proofs.YtoompephogamaaaGreatDoor

theorem pieces_at : ∀ (m : Nat) (u : List UInt8), (32 : UInt8) ∉ u.take m → u[m]? = some 32 → pieces u = u.take m :: pieces (u.drop (m + 1))
  | 0, [], _, h => by simp at h
  | 0, c :: r, _, h => by
    simp at h
    subst h
    simp [pieces]
  | m + 1, [], _, h => by simp at h
  | m + 1, c :: r, hn, h => by
    rw [List.take_succ_cons, List.mem_cons, not_or] at hn
    have ih := pieces_at m r hn.2 (by simpa using h)
    conv => lhs; unfold pieces
    rw [if_neg (fun e => hn.1 e.symm), ih]
    rfl
/-- What stands between two places. -/
def cutT (t : List UInt8) (f i : Nat) : List UInt8 := (t.drop f).take (i - f)
theorem cut_mid {t : List UInt8} {f i : Nat} (hf : f ≤ i) (hi : t[i]? = some 32) (hn : (32 : UInt8) ∉ cutT t f i) : pieces (t.drop f) = cutT t f i :: pieces (t.drop (i + 1)) := by
  have := pieces_at (i - f) (t.drop f) hn (by rw [List.getElem?_drop, show f + (i - f) = i by omega]; exact hi)
  rw [List.drop_drop, show f + (i - f + 1) = i + 1 by omega] at this
  exact this
theorem cut_end {t : List UInt8} {f : Nat} (hn : (32 : UInt8) ∉ cutT t f t.length) : pieces (t.drop f) = [cutT t f t.length] := by
  have e : cutT t f t.length = t.drop f := by
    unfold cutT
    rw [List.take_of_length_le (by rw [List.length_drop]; exact Nat.le_refl _)]
  rw [e] at hn ⊢
  exact pieces_last _ hn
theorem cut_grow {t : List UInt8} {f i : Nat} {x : UInt8} (hf : f ≤ i) (hi : t[i]? = some x) (hx : x ≠ 32) (hn : (32 : UInt8) ∉ cutT t f i) : (32 : UInt8) ∉ cutT t f (i + 1) := by
  unfold cutT at *
  rw [show i + 1 - f = (i - f) + 1 by omega, List.take_add_one, List.getElem?_drop, show f + (i - f) = i by omega, hi]
  simp only [Option.toList_some, List.mem_append, List.mem_singleton, not_or]
  exact ⟨hn, fun e => hx e.symm⟩
theorem cut_none (t : List UInt8) (f : Nat) : (32 : UInt8) ∉ cutT t f f := by unfold cutT; rw [Nat.sub_self]; simp
theorem cut_ext (s : ByteArray) (f i : Nat) : s.extract f i = ⟨(cutT s.data.toList f i).toArray⟩ := by
  apply ByteArray.ext
  rw [ByteArray.data_extract]
  apply Array.ext'
  rw [Array.toList_extract]
  simp [cutT, List.extract_eq_take_drop]

/-- One piece of a text of labels. -/
theorem part_step {ls : List Lab} {k f i : Nat} {t : List UInt8} (hf : f ≤ i) (hk : k < ls.length) (h : pieces (t.drop f) = (ls.drop k).map textL) (hn : (32 : UInt8) ∉ cutT t f i) :
    (t[i]? = some 32 → cutT t f i = textL (lab ls k) ∧ k + 1 < ls.length ∧ pieces (t.drop (i + 1)) = (ls.drop (k + 1)).map textL) ∧ (i = t.length → cutT t f i = textL (lab ls k) ∧ k + 1 = ls.length) := by
  rw [drop_cons hk, List.map_cons] at h
  refine ⟨fun hi => ?_, fun hi => ?_⟩
  · rw [cut_mid hf hi hn] at h
    simp only [List.cons.injEq] at h
    refine ⟨h.1, ?_, h.2⟩
    refine Classical.byContradiction fun hc => ?_
    have hl : ls.drop (k + 1) = [] := List.drop_eq_nil_of_le (by omega)
    rw [hl, List.map_nil] at h
    exact pieces_ne _ h.2
  · subst hi
    rw [cut_end hn] at h
    simp only [List.cons.injEq] at h
    refine ⟨h.1, ?_⟩
    have hl := congrArg List.length h.2
    simp at hl
    omega
/-- May a text be read as a label? -/
def Readable (p : List UInt8) : Prop := ∃ a : Lab, okLab a = true ∧ textL a = p
theorem bad_step {f i : Nat} {t : List UInt8} (hf : f ≤ i) (h : ∃ p ∈ pieces (t.drop f), ¬ Readable p) (hn : (32 : UInt8) ∉ cutT t f i) (hr : Readable (cutT t f i)) :
    (t[i]? = some 32 → ∃ p ∈ pieces (t.drop (i + 1)), ¬ Readable p) ∧ (i = t.length → False) := by
  obtain ⟨p, hp, hb⟩ := h
  refine ⟨fun hi => ?_, fun hi => ?_⟩
  · rw [cut_mid hf hi hn] at hp
    rcases List.mem_cons.1 hp with e | hp
    · exact absurd (e ▸ hr) hb
    · exact ⟨p, hp, hb⟩
  · subst hi
    rw [cut_end hn] at hp
    rcases List.mem_cons.1 hp with e | hp
    · exact absurd (e ▸ hr) hb
    · simp at hp
/-- A text is texts of labels with one blank between, or it has a piece that is none. -/
theorem read_or (t : List UInt8) : (∃ ls : List Lab, ls.all okLab = true ∧ pieces t = ls.map textL) ∨ ∃ p ∈ pieces t, ¬ Readable p := by
  by_cases h : ∃ p ∈ pieces t, ¬ Readable p
  · exact .inr h
  · left
    have hall : ∀ p ∈ pieces t, Readable p := fun p hp => Classical.byContradiction fun hc => h ⟨p, hp, hc⟩
    generalize pieces t = ps at hall
    clear h
    induction ps with
    | nil => exact ⟨[], rfl, rfl⟩
    | cons p r ih =>
      obtain ⟨a, ha, hp⟩ := hall p (by simp)
      obtain ⟨ls, h1, h2⟩ := ih fun q hq => hall q (by simp [hq])
      exact ⟨a :: ls, by simp [ha, h1], by rw [List.map_cons, hp, h2]⟩
end Go.Proofs.YtoompephogamaaaGreatDoor
