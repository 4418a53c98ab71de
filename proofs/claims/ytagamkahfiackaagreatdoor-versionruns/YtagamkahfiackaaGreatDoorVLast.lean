/- Tree.Last, Tree.First. -/
import Derived.Test.YtagamkahfiackaaGreatDoorVFrom
namespace Go.Proofs.YtagamkahfiackaaGreatDoor
open Go.RowKit Go.Sort

theorem all_dn : Dn (fun _ => true) := fun _ _ _ _ => rfl
theorem lastL_all (l : List It) : lastL (fun _ => true) l = l.getLast? := by
  unfold lastL
  rw [List.filter_eq_self.2 (fun _ _ => rfl)]
theorem frP_first (x : It) : frP ⟨#[]⟩ false x = true := by
  simp only [frP, Bool.false_eq_true, if_false, Bool.not_eq_true']
  unfold ltb
  have e : (⟨#[]⟩ : ByteArray).toList = [] := by rw [Lib.toList_data]
  rw [e]
  cases x.1.toList <;> rfl
theorem find_first (l : List It) : l.find? (frP ⟨#[]⟩ false) = l.head? := by
  cases l with
  | nil => rfl
  | cons x l => rw [List.find?_cons_of_pos (frP_first x)]; rfl
theorem tfirst_ {w : World} {M : Nat → Option Nd} {p : Nat} {l : List It} {F : Nat → Prop} (hs : Store w M) (ht : TreeAt w M p l F) :
    Calls Tryz.prog 61 #[.pointer (some ⟨p, 0, none⟩)] w fun e w' => e = .returned (tellV l.head?) ∧ Below w.heap.size w w' := by
  have HF : Hid (Calls Tryz.prog 46 #[.pointer (some ⟨p, 0, none⟩), .string ⟨#[]⟩, .bool false] w fun e w' => ∃ t1 t2 t3, e = .returned (.tuple #[t1, t2, t3]) ∧ Hid (tellV l.head? = .tuple #[t1, t2, t3]) ∧ Hid (Below w.heap.size w w')) := (tfrom_ hs ht ⟨#[]⟩ false).mono fun e w' ⟨e1, e2⟩ => by
    rw [find_first] at e1
    cases h : l.head? with
    | none => rw [h] at e1; exact ⟨_, _, _, e1, rfl, e2⟩
    | some x => rw [h] at e1; exact ⟨_, _, _, e1, rfl, e2⟩
  clear hs ht
  go_enter Tryz.func61, Tryz.ntmps61
  go_wp2_with (first | (go_at_call 46; refine HF.out.mono ?_; rintro e w2 ⟨t1, t2, t3, rfl, HV, HB2⟩) | fail)
  go_ret3
  exact ⟨by rw [HV.out]; rfl, HB2.out⟩
end Go.Proofs.YtagamkahfiackaaGreatDoor
