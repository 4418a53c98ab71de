/- Has, behindFrom, aheadOfTo, Empty. -/
import Derived.Test.YtagamkahfiackaaGreatDoorCuMem
import Derived.Test.YtagamkahfiackaaGreatDoorCuMath
namespace Go.Proofs.YtagamkahfiackaaGreatDoor
open Go.RowKit Go.Sort

/-- A range, and an end, as values. -/
def rgV (r : Rg) : Value := .agg #[.string r.f, .string r.t, .bool r.hf, .bool r.ht, .bool r.pf, .bool r.pt]
def enV (e : En) : Value := .agg #[.string e.t, .bool e.h, .bool e.o]
/-- What a walk asks of two texts. -/
def Ord3 (a b : ByteArray) (x y z : Bool) : Prop := Op.bytesLess a.toList b.toList = x ∧ Op.bytesLess b.toList a.toList = y ∧ (a.toList == b.toList) = z ∧ (b.toList == a.toList) = z ∧ ltb a b = x ∧ ltb b a = y ∧ sameb a b = z ∧ sameb b a = z
theorem ord3 (a b : ByteArray) : Ord3 a b true false false ∨ Ord3 a b false false true ∨ Ord3 a b false true false := by
  have ne : ∀ {a b : ByteArray}, a ≠ b → (a.toList == b.toList) = false := fun {a b} h => by
    simp only [beq_eq_false_iff_ne, ne_eq]
    exact fun e => h (toList_inj e)
  rcases ltb_cases a b with h | rfl | h
  · exact .inl ⟨h, ltb_asymm h, ne (ltb_ne h), ne (Ne.symm (ltb_ne h)), h, ltb_asymm h, sameb_lt h, sameb_gt h⟩
  · exact .inr (.inl ⟨less_irrefl _, less_irrefl _, by simp, by simp, ltb_irrefl _, ltb_irrefl _, sameb_self _, sameb_self _⟩)
  · exact .inr (.inr ⟨ltb_asymm h, h, ne (Ne.symm (ltb_ne h)), ne (ltb_ne h), ltb_asymm h, h, sameb_gt h, sameb_lt h⟩)
set_option maxRecDepth 100000 in
theorem ahd_ (r : Rg) (k : ByteArray) (w : World) : Calls Tryz.prog 45 #[rgV r, .string k] w fun e w' => e = .returned (.bool (ahdR r k)) ∧ Below w.heap.size w w' := by
  obtain ⟨f, t, hf, ht, pf, po⟩ := r
  have HB := Lib.hid (below_alloc w (.cells #[.string f, .string t, .bool hf, .bool ht, .bool pf, .bool po] 28))
  obtain ⟨R, hR⟩ : ∃ R, R = ahdR ⟨f, t, hf, ht, pf, po⟩ k := ⟨_, rfl⟩
  have HR := Lib.hid hR
  rw [← hR]
  clear hR
  unfold rgV
  rcases ord3 k t with ⟨h1, h2, h3, _, h5, _, h6, _⟩ | ⟨h1, h2, h3, _, h5, _, h6, _⟩ | ⟨h1, h2, h3, _, h5, _, h6, _⟩
  all_goals (
    cases ht <;> cases po
    all_goals (
      go_enter Tryz.func45, Tryz.ntmps45
      go_wp2_with fail
      go_ret
      exact ⟨by rw [HR.out]; simp [ahdR, h5, h6], HB.out⟩))
/-- A range in memory: its six cells. -/
def RgAt (w : World) (b : Nat) (r : Rg) : Prop := w.cell? ⟨b, 0, none⟩ = some (.string r.f) ∧ w.cell? ⟨b, 1, none⟩ = some (.string r.t) ∧ w.cell? ⟨b, 2, none⟩ = some (.bool r.hf) ∧ w.cell? ⟨b, 3, none⟩ = some (.bool r.ht) ∧ w.cell? ⟨b, 4, none⟩ = some (.bool r.pf) ∧ w.cell? ⟨b, 5, none⟩ = some (.bool r.pt)
theorem RgAt.on {w w' : World} {b N : Nat} {r : Rg} (h : RgAt w b r) (hb : Below N w w') (hN : b < N) : RgAt w' b r := by
  obtain ⟨h0, h1, h2, h3, h4, h5⟩ := h
  exact ⟨(hb.cell (p := ⟨b, 0, none⟩) hN).trans h0, (hb.cell (p := ⟨b, 1, none⟩) hN).trans h1, (hb.cell (p := ⟨b, 2, none⟩) hN).trans h2, (hb.cell (p := ⟨b, 3, none⟩) hN).trans h3, (hb.cell (p := ⟨b, 4, none⟩) hN).trans h4, (hb.cell (p := ⟨b, 5, none⟩) hN).trans h5⟩
theorem rgAt_new (w : World) (r : Rg) (t : TypeId) : RgAt (w.alloc (.cells #[.string r.f, .string r.t, .bool r.hf, .bool r.ht, .bool r.pf, .bool r.pt] t)) w.heap.size r := by
  have h := new_blk w (.cells #[.string r.f, .string r.t, .bool r.hf, .bool r.ht, .bool r.pf, .bool r.pt] t)
  exact ⟨cell_of h rfl, cell_of h rfl, cell_of h rfl, cell_of h rfl, cell_of h rfl, cell_of h rfl⟩
end Go.Proofs.YtagamkahfiackaaGreatDoor
