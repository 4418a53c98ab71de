/- How bytes lie in memory. -/
import Derived.Test.YtjgkoamhmmofbaaDoorChecked
import Derived.Test.YtjgkoamhmmofbaaDoorMath
import Derived.WalkKit
import Derived.WalkSpells
import Derived.WalkLawsBesides
import Derived.OwnWalk
import Derived.Laws.BytesArg
import Derived.Lib.AppendStr
import Derived.Lib.QuietBelow
import Derived.Lib.Hide
import Derived.Deep.RegionWith
namespace Go.Proofs.YtjgkoamhmmofbaaDoor
open Go.RowKit Go.Sort

theorem ret_bool {a b : Bool} (h : a = b) : Ending.returned (.bool a) = .returned (.bool b) := by rw [h]
theorem ret_int {k : IntKind} {a b : Int} (h : a = b) : Ending.returned (.int k a) = .returned (.int k b) := by rw [h]
def intOf : Value → Int | .int _ q => q | _ => 0

/-- Bytes as values. -/
def vals (xs : List Nat) : List Value := xs.map fun (x : Nat) => .int .u8 (x : Int)
theorem vals_len (xs : List Nat) : (vals xs).length = xs.length := by simp [vals]
theorem vals_append (xs ys : List Nat) : vals xs ++ vals ys = vals (xs ++ ys) := by simp [vals]
theorem vals_one (xs : List Nat) : ∀ u ∈ vals xs, u.oneCell' = true := by
  intro u hu
  obtain ⟨x, _, rfl⟩ := List.mem_map.1 hu
  rfl
theorem vals_get (xs : List Nat) (i : Nat) (h : i < xs.length) : (vals xs)[i]? = some (.int .u8 (xs.getD i 0 : Nat)) := by
  simp [vals, List.getElem?_map, List.getElem?_eq_getElem h, List.getD_eq_getElem?_getD]
/-- The cells behind a slice of bytes. -/
def BytesIn (w : World) (a : Option Addr) (xs : List Nat) : Prop :=
  ∀ i, i < xs.length → ∃ b o, a = some ⟨b, o, none⟩ ∧ w.cell? ⟨b, o + i, none⟩ = some (.int .u8 (xs.getD i 0 : Nat))
theorem BytesIn.on {w w' : World} {a : Option Addr} {xs : List Nat} (h : BytesIn w a xs) (hb : Below w.heap.size w w') : BytesIn w' a xs := by
  intro i hi
  obtain ⟨b, o, e, h1⟩ := h i hi
  exact ⟨b, o, e, (hb.cell (block_lt_of_cell h1)).trans h1⟩
theorem bytesIn_nil (w : World) (a : Option Addr) : BytesIn w a [] := fun i hi => by simp at hi
theorem BytesIn.news {w : World} {ad : Addr} {xs : List Nat} (h : BytesIn w (some ad) xs) : ∀ j u, (vals xs)[j]? = some u → w.cell? (ad.add j) = some u := by
  intro j u hj
  have hl : j < xs.length := by
    rcases Nat.lt_or_ge j xs.length with h | h
    · exact h
    · rw [List.getElem?_eq_none (by rw [vals_len]; exact h)] at hj; cases hj
  obtain ⟨b, o, e, h1⟩ := h j hl
  cases e
  rw [vals_get xs j hl] at hj
  cases hj
  rw [Addr.add_lit]
  exact h1
/-- A row of bytes that the call has made. -/
def Own (w : World) (base : Nat) (v : Value) (xs : List Nat) : Prop := w.ownsRow base 5 1 v xs.length (vals xs)
theorem Own.bytes {w : World} {base : Nat} {v : Value} {xs : List Nat} (h : Own w base v xs) : ∃ a c, v = .slice a xs.length c ∧ BytesIn w a xs ∧ (a = none → c = 0) := by
  rcases h.2 with ⟨rfl, e⟩ | ⟨g, cap, cur, rfl, _, _, _, _, _, _⟩
  · have : xs = [] := List.eq_nil_of_length_eq_zero e
    subst this
    exact ⟨none, 0, rfl, bytesIn_nil _ _, fun _ => rfl⟩
  · refine ⟨_, _, rfl, fun i hi => ⟨g, 0, rfl, ?_⟩, fun hh => by cases hh⟩
    have := World.ownsRow.cellAt h i (by omega)
    rw [Nat.zero_add, this, vals_get xs i hi]
theorem Own.cells {w : World} {base g n c : Nat} {xs : List Nat} (h : Own w base (.slice (some ⟨g, 0, none⟩) n c) xs) : n = xs.length ∧ BytesIn w (some ⟨g, 0, none⟩) xs ∧ base ≤ g ∧ g < w.heap.size := by
  obtain ⟨a, c', e, hb, _⟩ := h.bytes
  simp only [Value.slice.injEq] at e
  obtain ⟨rfl, rfl, rfl⟩ := e
  obtain ⟨h1, h2⟩ := World.ownsRow.lt h g rfl
  exact ⟨rfl, hb, h1, h2⟩
theorem Own.on {w w' : World} {base : Nat} {v : Value} {xs : List Nat} (h : Own w base v xs) (hb : Below w.heap.size w w') : Own w' base v xs := by
  refine ⟨h.1, ?_⟩
  rcases h.2 with h1 | ⟨g, cap, cur, e, h1, h2, h3, h4, h5, h6⟩
  · exact .inl h1
  · have hlt : g < w.heap.size := by
      rcases Nat.lt_or_ge g w.heap.size with hl | hl
      · exact hl
      · rw [Array.getElem?_eq_none hl] at h2; cases h2
    exact .inr ⟨g, cap, cur, e, h1, (hb.block g hlt).trans h2, h3, h4, h5, h6⟩
theorem Own.lower {w : World} {base base' : Nat} {v : Value} {xs : List Nat} (h : Own w base v xs) (hb : base' ≤ base) : Own w base' v xs := by
  refine ⟨h.1, ?_⟩
  rcases h.2 with h1 | ⟨g, cap, cur, e, h1, h2, h3, h4, h5, h6⟩
  · exact .inl h1
  · exact .inr ⟨g, cap, cur, e, Nat.le_trans hb h1, h2, h3, h4, h5, h6⟩

theorem infoB : (Tryd.prog.info? 5).map (fun i => (i.zero, i.size, i.bytes)) = some (some (.int .u8 0), 1, 1) := by kernel_rfl

/-- string(b). -/
theorem conv_ (w : World) (a : Option Addr) (n c : Nat) (xs : List Nat) (hn : n = xs.length) (h : BytesIn w a xs) : (convert 22 9 (.slice a n c)).run Tryd.prog w = .ok (.string (bs xs)) w := by
  have e : strOfNums (xs.map fun (x : Nat) => (x : Int)) = bs xs := by simp [strOfNums, bs, Function.comp_def]
  subst hn
  cases a with
  | none =>
    have hx : xs = [] := by
      cases xs with
      | nil => rfl
      | cons y ys => obtain ⟨_, _, hh, _⟩ := h 0 (by simp); cases hh
    subst hx
    rw [run_convert_bytes_nil w 22 5 Tryd.underlying22 Tryd.underlying5 _ _ 9 Tryd.underlying9]
    rfl
  | some ad =>
    by_cases hx : xs = []
    · subst hx
      rw [run_convert_bytes_string w 22 9 5 _ _ _ Tryd.underlying22 Tryd.underlying5 Tryd.underlying9]
      rw [run_bytesToString w ad _ c [] (by rfl)]
      rfl
    · obtain ⟨b, o, hh, _⟩ := h 0 (by cases xs with | nil => exact absurd rfl hx | cons y ys => simp)
      cases hh
      rw [run_convert_bytes_arg w 22 5 Tryd.underlying22 Tryd.underlying5 b o _ c (xs.map fun (x : Nat) => (x : Int)) (by simp) (fun i hi => by
        obtain ⟨b', o', hh, h1⟩ := h i hi
        cases hh
        rw [h1]
        simp [List.getD_eq_getElem?_getD, List.getElem?_map, List.getElem?_eq_getElem hi]) 9 Tryd.underlying9, e]

theorem bytes_none {w : World} {xs : List Nat} (h : BytesIn w none xs) : xs = [] := by
  cases xs with
  | nil => rfl
  | cons y ys => obtain ⟨_, _, hh, _⟩ := h 0 (by simp); cases hh
theorem below_step {W w w' : World} (h : Below W.heap.size W w) (hb : Below w.heap.size w w') : Below W.heap.size W w' := h.trans (hb.mono h.size)
theorem below_drew (W : World) : Below W.heap.size W W.drew := (Below.refl _ _).drew
end Go.Proofs.YtjgkoamhmmofbaaDoor
