/- The document's Meet. -/
import Derived.Test.YteeojhmdefhlmaaCuRef
namespace Go.Proofs.Yteeojhmdefhlmaa
open Go.RowKit Go.Sort

def zeroR : Rg := ⟨nil8, nil8, false, false, false, false⟩
def cF (r x : Rg) : Bool := x.hf && (!r.hf || ltb r.f x.f || (sameb x.f r.f && x.pf))
def cT (r x : Rg) : Bool := x.ht && (!r.ht || ltb x.t r.t || (sameb x.t r.t && x.pt))
def setF (r x : Rg) : Rg := ⟨x.f, r.t, true, r.ht, x.pf, r.pt⟩
def setT (r x : Rg) : Rg := ⟨r.f, x.t, r.hf, true, r.pf, x.pt⟩
def stepR (r x : Rg) : Rg := bif cT r x then setT (bif cF r x then setF r x else r) x else (bif cF r x then setF r x else r)
theorem cT_setF (r x y : Rg) : cT (setF r y) x = cT r x := rfl
theorem meet_step (a b : Rg) : stepR (stepR zeroR a) b = meetR a b := by
  obtain ⟨f, t, hf, ht, pf, po⟩ := a
  obtain ⟨f', t', hf', ht', pf', po'⟩ := b
  have hF : ∀ (r x : Rg), (stepR r x).f = (if cF r x then x.f else r.f) ∧ (stepR r x).hf = (if cF r x then true else r.hf) ∧ (stepR r x).pf = (if cF r x then x.pf else r.pf) ∧ (stepR r x).t = (if cT r x then x.t else r.t) ∧ (stepR r x).ht = (if cT r x then true else r.ht) ∧ (stepR r x).pt = (if cT r x then x.pt else r.pt) := fun r x => by
    unfold stepR
    cases cF r x <;> cases cT r x <;> exact ⟨rfl, rfl, rfl, rfl, rfl, rfl⟩
  have ext : ∀ {r s : Rg}, r.f = s.f → r.t = s.t → r.hf = s.hf → r.ht = s.ht → r.pf = s.pf → r.pt = s.pt → r = s := fun {r s} h0 h1 h2 h3 h4 h5 => by
    cases r; cases s; simp only at h0 h1 h2 h3 h4 h5; subst h0 h1 h2 h3 h4 h5; rfl
  have fr : (stepR (stepR zeroR ⟨f, t, hf, ht, pf, po⟩) ⟨f', t', hf', ht', pf', po'⟩).f = (meetR ⟨f, t, hf, ht, pf, po⟩ ⟨f', t', hf', ht', pf', po'⟩).f ∧ (stepR (stepR zeroR ⟨f, t, hf, ht, pf, po⟩) ⟨f', t', hf', ht', pf', po'⟩).hf = (meetR ⟨f, t, hf, ht, pf, po⟩ ⟨f', t', hf', ht', pf', po'⟩).hf ∧ (stepR (stepR zeroR ⟨f, t, hf, ht, pf, po⟩) ⟨f', t', hf', ht', pf', po'⟩).pf = (meetR ⟨f, t, hf, ht, pf, po⟩ ⟨f', t', hf', ht', pf', po'⟩).pf := by
    rw [(hF _ _).1, (hF _ _).2.1, (hF _ _).2.2.1]
    unfold cF
    simp only [(hF _ _).1, (hF _ _).2.1, (hF _ _).2.2.1]
    unfold cF meetR joinR narE frmE zeroR
    cases hf with
    | false => cases hf' <;> simp
    | true =>
      cases hf' with
      | false => simp
      | true =>
        rcases ltb_cases f' f with q | rfl | q
        · simp [q, ltb_asymm q, sameb_lt q]
        · cases pf <;> cases pf' <;> simp [ltb_irrefl, sameb_self]
        · simp [q, ltb_asymm q, sameb_lt q]
  have tt : (stepR (stepR zeroR ⟨f, t, hf, ht, pf, po⟩) ⟨f', t', hf', ht', pf', po'⟩).t = (meetR ⟨f, t, hf, ht, pf, po⟩ ⟨f', t', hf', ht', pf', po'⟩).t ∧ (stepR (stepR zeroR ⟨f, t, hf, ht, pf, po⟩) ⟨f', t', hf', ht', pf', po'⟩).ht = (meetR ⟨f, t, hf, ht, pf, po⟩ ⟨f', t', hf', ht', pf', po'⟩).ht ∧ (stepR (stepR zeroR ⟨f, t, hf, ht, pf, po⟩) ⟨f', t', hf', ht', pf', po'⟩).pt = (meetR ⟨f, t, hf, ht, pf, po⟩ ⟨f', t', hf', ht', pf', po'⟩).pt := by
    rw [(hF _ _).2.2.2.1, (hF _ _).2.2.2.2.1, (hF _ _).2.2.2.2.2]
    unfold cT
    simp only [(hF _ _).2.2.2.1, (hF _ _).2.2.2.2.1, (hF _ _).2.2.2.2.2]
    unfold cT meetR joinR narE toE zeroR
    cases ht with
    | false => cases ht' <;> simp
    | true =>
      cases ht' with
      | false => simp
      | true =>
        rcases ltb_cases t' t with q | rfl | q
        · simp [q, ltb_asymm q, sameb_gt q]
        · cases po <;> cases po' <;> simp [ltb_irrefl, sameb_self]
        · simp [q, ltb_asymm q, sameb_gt q]
  exact ext fr.1 tt.1 fr.2.1 tt.2.1 fr.2.2 tt.2.2
/-- A range in a block of its own. -/
def RB (w : World) (g : Nat) (r : Rg) : Prop := w.heap[g]? = some (.cells #[.string r.f, .string r.t, .bool r.hf, .bool r.ht, .bool r.pf, .bool r.pt] 23 (0, 0))
theorem RB.at {w : World} {g : Nat} {r : Rg} (h : RB w g r) : RgAt w g r := ⟨cell_of h rfl, cell_of h rfl, cell_of h rfl, cell_of h rfl, cell_of h rfl, cell_of h rfl⟩
theorem RB.setF {w : World} {g : Nat} {r x : Rg} (h : RB w g r) : RB (((w.setCell ⟨g, 0, none⟩ (.string x.f)).setCell ⟨g, 2, none⟩ (.bool true)).setCell ⟨g, 4, none⟩ (.bool x.pf)) g (setF r x) := by
  unfold RB
  rw [heap_set _ (heap_set _ (heap_set _ h))]
  rfl
theorem RB.setT {w : World} {g : Nat} {r x : Rg} (h : RB w g r) : RB (((w.setCell ⟨g, 1, none⟩ (.string x.t)).setCell ⟨g, 3, none⟩ (.bool true)).setCell ⟨g, 5, none⟩ (.bool x.pt)) g (setT r x) := by
  unfold RB
  rw [heap_set _ (heap_set _ (heap_set _ h))]
  rfl
end Go.Proofs.Yteeojhmdefhlmaa
