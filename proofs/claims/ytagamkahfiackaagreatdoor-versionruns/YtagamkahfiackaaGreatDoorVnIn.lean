/- A region that draws its order, in a round: walked as outside of one. -/
import Derived.Test.YtagamkahfiackaaGreatDoorJ6
import Derived.CallsIn
import Derived.OrdersIn
import Derived.OwnWalkIn
import Derived.RangeFuncCalls
namespace Go.Proofs.YtagamkahfiackaaGreatDoor
open Go.RowKit Go.Sort Go.Deep

section
variable {P : Program} {ll n : Nat}
theorem rows_in_round {row : String} {args : Array Value} {w : World} {R : Value → World → Prop} (h : Rows P row args w R) : RowsIn (Fence.wide.inRound ll) n P row args w R := fun c cs _ => by
  obtain ⟨v, w', hr, hs⟩ := h c cs
  exact ⟨v, w', hr, (stepsIn_wide.2 hs : StepsIn (Machine.fenced P Fence.wide) P _ _)⟩
def noDefer (l : List Oper) : Bool := l.all fun o => match o.op with
  | .defer _ => false
  | _ => true
theorem noDefer_at {l : List Oper} (h : noDefer l = true) {i : Nat} {o : Oper} (ho : l.toArray[i]? = some o) : ∀ c, o.op ≠ .defer c := fun c e => by
  have := List.all_eq_true.1 h o (List.mem_of_getElem? (by simpa using ho))
  rw [e] at this
  cases this
theorem oper_in_round {o : Oper} (hd : ∀ c, o.op ≠ .defer c) {a : Act} {w : World} {K K' : Act → World → Prop} {Q : Exit → Act → World → Prop} (hK : ∀ a w, K a w → K' a w) (h : o.wp P a w K Q) : o.wpIn (Fence.wide.inRound ll) n P a w K' Q := by
  refine ⟨fun _ _ => trivial, ?_⟩
  rw [Oper.semAt_plain (Fence.wide.inRound ll) _ _ hd]
  unfold Oper.wp at h
  revert h
  generalize (execOp a.eval o).run P w = r
  intro h
  cases r with
  | ok v w' =>
    cases v with
    | value v => exact hK _ _ h
    | skip => exact hK _ _ h
    | defer d => exact hK _ _ h
    | enter f args =>
      refine ⟨fun hh => (by cases hh), ?_⟩
      refine (CallsIn.inRound ll (callsIn_wide.2 h)).mono ?_
      intro e w'' he
      cases e with
      | returned v => exact hK _ _ he
      | panicked c => exact he
      | outgrown => exact he
    | row row args =>
      refine ⟨fun hh => (by cases hh), ?_⟩
      exact (rows_in_round h).mono fun v w'' hv => hK _ _ hv
    | _ => exact False.elim h
  | halt hh w' =>
    cases hh with
    | panic v => exact h
    | _ => exact False.elim h
theorem any_in_round {l : List Oper} (hd : noDefer l = true) {md : Region.Mode} {Q : Exit → Act → World → Prop} (hlo : ¬ LetsOut Q) : ∀ (fuel : Nat) (listed : Array Bool) (a : Act) (w : World), wpAny P md l.toArray Q fuel listed a w → wpAnyIn (Fence.wide.inRound ll) n P md l.toArray Q fuel listed a w
  | 0, _, _, _, h => h
  | fuel + 1, listed, a, w, h => ⟨h.1, fun i hi => by
      have h2 := h.2 i hi
      unfold wpOp at h2
      unfold wpOpIn
      cases ho : l.toArray[i]? with
      | none =>
        rw [ho] at h2
        exact any_in_round hd hlo fuel _ _ _ h2
      | some o =>
        rw [ho] at h2
        simp only at h2 ⊢
        split
        · rename_i hw
          rw [if_pos hw] at h2
          exact oper_in_round (noDefer_at hd ho) (fun a w h => any_in_round hd hlo fuel _ a w h) (h2.resolve_right fun q => hlo q.2)
        · rename_i hw
          rw [if_neg hw] at h2
          exact ⟨fun _ _ => trivial, any_in_round hd hlo fuel _ _ _ h2⟩⟩
theorem region_in {l : List Oper} {Q : Exit → Act → World → Prop} {A B C : World → Prop} {e1 e2 id : Nat} {a : Act} {w : World} (hm : P.follows .mixedOrders = true) (hd : noDefer l = true) (hlo : ¬ LetsOut (NoPanic Q)) (hS : Ph A e1 B e2 C (Array.replicate l.length false) w.drew)
    (h : Ph A e1 B e2 C (Array.replicate l.length false) w.drew → wpAnyS P .any l.toArray (NoPanic Q) (Ph A e1 B e2 C) l.length (Array.replicate l.length false) a w.drew) : (Code.region id l.toArray true).wpIn (Fence.wide.inRound ll) n P Q a w := by
  refine wpIn_mono (wpIn_region_any (Q := NoPanic Q) hm (any_in_round hd hlo _ _ _ _ (wpAny_of_S (S := Ph A e1 B e2 C) _ _ _ _ ?_))) NoPanic.imp
  rw [List.size_toArray]
  exact h hS
end
end Go.Proofs.YtagamkahfiackaaGreatDoor
