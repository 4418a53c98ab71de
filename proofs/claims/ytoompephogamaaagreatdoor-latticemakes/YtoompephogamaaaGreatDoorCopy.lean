/- Labels copied: slices.Clone, and the law's 'twin'. -/
import Derived.Test.YtoompephogamaaaGreatDoorOwn
import Derived.Lib.SliceRun
namespace Go.Proofs.YtoompephogamaaaGreatDoor
open Go.RowKit Go.Sort

def labCells : List Lab → List Value
  | [] => []
  | a :: r => .int .i64 a.1 :: .int .u32 a.2 :: labCells r
theorem labCells_len : ∀ ls, (labCells ls).length = ls.length * 2
  | [] => rfl
  | a :: r => by simp only [labCells, List.length_cons, labCells_len r]; omega
theorem labCells_append : ∀ a b, labCells a ++ labCells b = labCells (a ++ b)
  | [], _ => rfl
  | x :: r, b => by simp only [labCells, List.cons_append, labCells_append r b]
theorem labCells_fst : ∀ (ls : List Lab) (i : Nat), i < ls.length → (labCells ls)[i * 2]? = some (.int .i64 (lab ls i).1)
  | [], i, h => by simp at h
  | a :: r, 0, _ => rfl
  | a :: r, i + 1, h => by
    rw [show (i + 1) * 2 = i * 2 + 2 by omega]
    simp only [labCells, List.getElem?_cons_succ]
    rw [labCells_fst r i (by simpa using h)]
    rfl
theorem labCells_snd : ∀ (ls : List Lab) (i : Nat), i < ls.length → (labCells ls)[i * 2 + 1]? = some (.int .u32 (lab ls i).2)
  | [], i, h => by simp at h
  | a :: r, 0, _ => rfl
  | a :: r, i + 1, h => by
    rw [show (i + 1) * 2 + 1 = i * 2 + 1 + 2 by omega]
    simp only [labCells, List.getElem?_cons_succ]
    rw [labCells_snd r i (by simpa using h)]
    rfl
theorem labCells_one : ∀ (ls : List Lab), ∀ u ∈ labCells ls, u.oneCell' = true
  | [], u, h => by simp [labCells] at h
  | a :: r, u, h => by
    simp only [labCells, List.mem_cons] at h
    rcases h with rfl | rfl | h
    · rfl
    · rfl
    · exact labCells_one r u h
theorem labNews {w : World} {b o : Nat} {ls : List Lab} (h : LabsIn w (some ⟨b, o, none⟩) ls) : ∀ j u, (labCells ls)[j]? = some u → w.cell? ((⟨b, o, none⟩ : Addr).add j) = some u := by
  intro j u hj
  obtain ⟨hlt, _⟩ := List.getElem?_eq_some_iff.1 hj
  rw [labCells_len] at hlt
  have hi : j / 2 < ls.length := by omega
  obtain ⟨b', o', e', h1, h2⟩ := h (j / 2) hi
  simp only [Option.some.injEq, Addr.mk.injEq] at e'
  obtain ⟨rfl, rfl, _⟩ := e'
  rw [Addr.add_lit]
  by_cases hm : j % 2 = 0
  · have e : j = j / 2 * 2 := by omega
    rw [e, labCells_fst ls _ hi] at hj
    rw [e]
    exact h1.trans hj
  · have e : j = j / 2 * 2 + 1 := by omega
    rw [e, labCells_snd ls _ hi] at hj
    rw [e, ← Nat.add_assoc]
    exact h2.trans hj
theorem labsIn_of {w : World} {base : Nat} {v : Value} {ls : List Lab} (h : w.ownsRow base 25 2 v ls.length (labCells ls)) : ∃ a c, v = .slice a ls.length c ∧ LabsIn w a ls := by
  rcases h.2 with ⟨rfl, h0⟩ | ⟨g, cap, cur, rfl, hb, hg, h1, h2, h3, h4⟩
  · refine ⟨none, 0, by rw [h0], fun i hi => by omega⟩
  · refine ⟨_, cap, rfl, fun i hi => ⟨g, 0, rfl, ?_, ?_⟩⟩
    · have := h.cells (g := g) rfl _ _ (labCells_fst ls i hi)
      rw [Addr.add_lit] at this
      exact this
    · have := h.cells (g := g) rfl _ _ (labCells_snd ls i hi)
      rw [Addr.add_lit] at this
      rw [Nat.add_assoc]
      exact this
theorem infoL : (Tryz.prog.info? 25).map (fun i => (i.zero, i.size, i.bytes)) = some (some (.agg #[.int .i64 0, .int .u32 0]), 2, 16) := by kernel_rfl

set_option maxHeartbeats 1000000 in
set_option maxRecDepth 100000 in
theorem clone_ (a : Option Addr) (c : Nat) (ls : List Lab) (w : World) (h : LabsIn w a ls) (h0 : 0 < ls.length) (hn : ls.length ≤ 16) :
    Calls Tryz.prog 19 #[.slice a ls.length c] w fun e w' => ∃ a' c', e = .returned (.slice a' ls.length c') ∧ LabsIn w' a' ls ∧ Below w.heap.size w w' := by
  obtain ⟨b, o, rfl, _⟩ := h 0 h0
  have HL := Lib.hid h
  have hlen := labCells_len ls
  clear h
  obtain ⟨i0, hi, hz0, hz1, hz2⟩ := info_parts infoL
  have q22 : ∀ (w : World) (a : Option Addr) (n c n' c' : Nat), (binOp .eql 22 (.slice a n c) (.slice none n' c')).run Tryz.prog w = .ok (.bool a.isNone) w := fun w a n c n' c' => Lib.run_eql_slice_nil w _ _ a n c n' c' Tryz.underlying22
  go_enter Tryz.func19, Tryz.ntmps19
  go_wp2_with (first
    | (at_builtin; refine wpList_append_own _ rfl _ _ 22 rfl w.heap.size 25 i0 (.agg #[.int .i64 0, .int .u32 0]) 2 16 Tryz.underlying22 hi hz0 hz1 hz2 rfl (by decide) _ _ _ rfl (World.ownsRow_made w #[] 0 (Nat.le_refl _) (Nat.zero_le _) (by simp)) ⟨b, o, none⟩ ls.length c (labCells ls) rfl hlen (labNews (HL.out.on ((Below.refl _ _).alloc (Nat.le_refl _) _))) (labCells_one ls) (by unfold maxLen; omega) (by omega) (by simp) ?_)
    | go_in)
  intro v' w1 hown hgrow _
  obtain ⟨a', c', rfl, hin⟩ := labsIn_of hown
  have hb : Below w.heap.size w w1 := ((Below.refl _ _).alloc (Nat.le_refl _) _).grown hgrow (by simp) (fun g hg => by simp [Value.ownBlock] at hg; omega)
  have HI := Lib.hid hin
  clear hown hgrow hin
  go_wp2
  go_ret
  exact ⟨a', c', rfl, HI.out, hb⟩

set_option maxHeartbeats 1000000 in
theorem twin_ (a : Option Addr) (c : Nat) (ls : List Lab) (w : World) (h : LabsIn w a ls) (hn : ls.length * 16 ≤ 140737488355328) (hnil : ls.length = 0 → a = none → c = 0) :
    Calls Tryz.prog 5 #[.slice a ls.length c] w fun e w' => ∃ a' c', e = .returned (.slice a' ls.length c') ∧ LabsIn w' a' ls ∧ Below w.heap.size w w' := by
  have HL := Lib.hid h
  have hlen := labCells_len ls
  obtain ⟨i0, hi, hz0, hz1, hz2⟩ := info_parts infoL
  cases a with
  | none =>
    have h0 : ls = [] := by
      refine Classical.byContradiction fun hne => ?_
      obtain ⟨_, _, e, _⟩ := h 0 (List.length_pos_iff.2 hne)
      cases e
    subst h0
    obtain rfl := hnil rfl rfl
    clear h HL hlen hn hnil
    go_enter Tryz.func5, Tryz.ntmps5
    go_wp2
    go_ret
    exact ⟨none, 0, rfl, fun i hi => by simp at hi, Below.refl _ _⟩
  | some ad =>
    obtain ⟨b, o, m⟩ := ad
    clear hnil
    have HN : Hid (∀ j u, (labCells ls)[j]? = some u → w.cell? ((⟨b, o, m⟩ : Addr).add j) = some u) := by
      by_cases h0 : ls = []
      · subst h0; intro j u hj; simp [labCells] at hj
      · obtain ⟨b', o', e, _⟩ := h 0 (List.length_pos_iff.2 h0)
        simp only [Option.some.injEq, Addr.mk.injEq] at e
        obtain ⟨rfl, rfl, rfl⟩ := e
        exact labNews h
    clear h
    go_enter Tryz.func5, Tryz.ntmps5
    go_wp2_with (first
      | (at_builtin; refine wpList_append_own _ rfl _ _ 22 rfl w.heap.size 25 i0 (.agg #[.int .i64 0, .int .u32 0]) 2 16 Tryz.underlying22 hi hz0 hz1 hz2 rfl (by decide) _ _ _ rfl (World.ownsRow_nil _ _ _ _) ⟨b, o, m⟩ ls.length c (labCells ls) rfl hlen HN.out (labCells_one ls) (by unfold maxLen; omega) (by omega) (by simp) ?_)
      | go_in)
    intro v' w1 hown hgrow _
    obtain ⟨a', c', rfl, hin⟩ := labsIn_of hown
    have hb : Below w.heap.size w w1 := (Below.refl _ _).grown hgrow (by simp) (fun g hg => by simp [Value.ownBlock] at hg)
    have HI := Lib.hid hin
    clear hown hgrow hin
    go_wp2
    go_ret
    exact ⟨a', c', rfl, HI.out, hb⟩
end Go.Proofs.YtoompephogamaaaGreatDoor
