/- What the walk of the law TwinRuns takes: the step whatever its kind; what Load and Halves hand back, in one form. -/
import Derived.Test.YthaihallfjjnpaaGreatDoorTStep
import Derived.Test.YthaihallfjjnpaaGreatDoorTSure
namespace Go.Proofs.YthaihallfjjnpaaGreatDoor
open Go.RowKit Go.Sort Go.Maps

theorem step_ {w0 w : World} {p aa bb : Nat} {d : Dev} {K : Nat} {x : RD} {ra : Option Addr} {rc : Nat} {a : Ar} {A : ActV} (h : StepIn w0 w p aa bb d K x ra rc a A) (ha : inI A.at') :
    Calls Tryz.prog 6 #[.pointer (some ⟨p, 0, none⟩), rdV x ra rc, arV a, actV A] w (StepTo w p aa bb K) := by
  obtain ⟨m, h1, h2, h3⟩ := mod_at2 5 (by omega) (by omega) A.kind
  have hm : m = 0 ∨ m = 1 ∨ m = 2 ∨ m = 3 ∨ m = 4 := by omega
  rcases hm with rfl | rfl | rfl | rfl | rfl
  · exact step0_ h ⟨h1, h2⟩
  · exact step1_ h ⟨h1, h2⟩
  · by_cases hat : A.at' < 0
    · exact step2a_ h ⟨h1, h2⟩ hat
    · exact step2b_ h ⟨h1, h2⟩ ⟨by omega, ha.2⟩
  · exact step3_ h ⟨h1, h2⟩
  · exact step4_ h ⟨h1, h2⟩
theorem new_x (r s : Int) (w : World) (h : 1 ≤ r ∧ r ≤ 16 ∧ 1 ≤ s ∧ s ≤ 16384) :
    Calls Tryz.prog 4 #[.int .i64 r, .int .i64 s] w fun e w' => ∃ p aa bb, e = .returned (.tuple #[.pointer (some ⟨p, 0, none⟩), .nilIface]) ∧ (w.heap.size ≤ p ∧ w.heap.size ≤ aa ∧ w.heap.size ≤ bb) ∧ Below w.heap.size w w' ∧ DevIn w' p aa bb (newD r s) 0 :=
  (new_ r s w h).mono fun _ _ ⟨h1, h2, h3⟩ => ⟨_, _, _, h1, ⟨by omega, by omega, by omega⟩, h2, h3⟩
theorem dev_ne {w : World} {p aa bb B K : Nat} {d : Dev} {cs : Array Value} {t : TypeId} {z : Nat × Nat} (hD : DevIn w p aa bb d K) (hB : w.heap[B]? = some (.cells cs t z)) (ht : t ≠ 59) : B ≠ p ∧ B ≠ aa ∧ B ≠ bb :=
  ⟨(fun e => by rw [e, hD.blk] at hB; simp only [Option.some.injEq, Obj.cells.injEq] at hB; exact ht hB.2.1.symm), (fun e => by obtain ⟨es, cl, hm⟩ := hD.mapA; rw [e, hm] at hB; cases hB), (fun e => by obtain ⟨es, cl, hm⟩ := hD.mapB; rw [e, hm] at hB; cases hB)⟩
/-- A device of the document's stored whole in a block of its own. -/
theorem row_fin {w V : World} {p aa bb K N : Nat} {d : Dev} {l : List RS} {a : Option Addr} {c : Nat} {old cs : Array Value} (hD : DevIn V p aa bb d K) (hl : LstS V a c l) (hf : Fd p aa bb w V) (hN : w.heap.size ≤ N) (hg : V.heap[N]? = some (.cells old 32 (0, 0))) :
    DevIn (V.setRow N cs) p aa bb d K ∧ LstS (V.setRow N cs) a c l ∧ Fd p aa bb w (V.setRow N cs) ∧ (V.setRow N cs).heap[N]? = some (.cells cs 32 (0, 0)) := by
  have hne := dev_ne hD hg (by decide)
  exact ⟨hD.keep (setRow_other V N _ cs (Ne.symm hne.1)) (setRow_other V N _ cs (Ne.symm hne.2.1)) (setRow_other V N _ cs (Ne.symm hne.2.2)), lst_setRow hl hg, ⟨hf.os, hf.tape, hf.output, by simpa [World.setRow] using hf.size, fun k hk h1 h2 h3 => (setRow_other V N k cs (by omega)).trans (hf.block k hk h1 h2 h3)⟩, setRow_heap V N _ cs 32 (0, 0) hg⟩
/-- .. in the block that holds one. -/
theorem six_fin {w V : World} {p aa bb K N : Nat} {d : Dev} {l : List RS} {a : Option Addr} {c : Nat} {x0 x1 x2 x3 x4 x5 : Value} (hD : DevIn V p aa bb d K) (hl : LstS V a c l) (hb : Below w.heap.size w V) (hN : w.heap.size ≤ N) (hg : V.heap[N]? = some (.cells #[x0, x1, x2, x3, x4, x5] 32 (0, 0))) (v0 v1 v2 v3 v4 v5 : Value) :
    DevIn ((((((V.setCell ⟨N, 0, none⟩ v0).setCell ⟨N, 1, none⟩ v1).setCell ⟨N, 2, none⟩ v2).setCell ⟨N, 3, none⟩ v3).setCell ⟨N, 4, none⟩ v4).setCell ⟨N, 5, none⟩ v5) p aa bb d K
    ∧ LstS ((((((V.setCell ⟨N, 0, none⟩ v0).setCell ⟨N, 1, none⟩ v1).setCell ⟨N, 2, none⟩ v2).setCell ⟨N, 3, none⟩ v3).setCell ⟨N, 4, none⟩ v4).setCell ⟨N, 5, none⟩ v5) a c l
    ∧ Below w.heap.size w ((((((V.setCell ⟨N, 0, none⟩ v0).setCell ⟨N, 1, none⟩ v1).setCell ⟨N, 2, none⟩ v2).setCell ⟨N, 3, none⟩ v3).setCell ⟨N, 4, none⟩ v4).setCell ⟨N, 5, none⟩ v5)
    ∧ ((((((V.setCell ⟨N, 0, none⟩ v0).setCell ⟨N, 1, none⟩ v1).setCell ⟨N, 2, none⟩ v2).setCell ⟨N, 3, none⟩ v3).setCell ⟨N, 4, none⟩ v4).setCell ⟨N, 5, none⟩ v5).heap[N]? = some (.cells #[v0, v1, v2, v3, v4, v5] 32 (0, 0))
    ∧ ∀ k, k ≠ N → ((((((V.setCell ⟨N, 0, none⟩ v0).setCell ⟨N, 1, none⟩ v1).setCell ⟨N, 2, none⟩ v2).setCell ⟨N, 3, none⟩ v3).setCell ⟨N, 4, none⟩ v4).setCell ⟨N, 5, none⟩ v5).heap[k]? = V.heap[k]? := by
  have hne := dev_ne hD hg (by decide)
  refine ⟨hD.keep (six_far V (Ne.symm hne.1) _ _ _ _ _ _) (six_far V (Ne.symm hne.2.1) _ _ _ _ _ _) (six_far V (Ne.symm hne.2.2) _ _ _ _ _ _), hl.stay fun k q z hk => six_far V (fun e => ?_) _ _ _ _ _ _, six_below hb hN _ _ _ _ _ _, six_heap hg _ _ _ _ _ _, fun k hk => six_far V hk _ _ _ _ _ _⟩
  rw [e, hg] at hk
  simp only [Option.some.injEq, Obj.cells.injEq] at hk
  exact absurd hk.2.1 (by decide)
/-- The loop under way. -/
def Run9 (w : World) (a : Ar) (B7 p aa bb i : Nat) (wr : World) : Prop := ∃ d x ra rc, DevIn wr p aa bb d (8193 * i) ∧ wr.heap[B7]? = some (.cells (rdC x ra x.l.length rc) 32 (0, 0)) ∧ LstS wr ra rc x.l ∧ Tie d x ∧ (d.r = 2 ∧ d.s = 12) ∧ ArAtR wr w.heap.size a ∧ Below w.heap.size w wr
theorem errV0 : errV 0 = .nilIface := if_pos rfl
/-- What Load hands back, in one form. -/
theorem load_x {w : World} {p aa bb : Nat} {d : Dev} {K : Nat} (h : DevIn w p aa bb d K) (a : Ar) (hr : inR a) :
    Calls Tryz.prog 7 #[.pointer (some ⟨p, 0, none⟩), arV a] w fun e w' => ∃ la ln lc, e = .returned (.tuple #[.slice la ln lc, .int .u64 (ldN d a : Nat), errV (loadE d a)]) ∧ BytesIn w' la (ldT d a) ∧ ln = (ldT d a).length ∧ Below w.heap.size w w' :=
  (load_ h a hr).mono fun e w' ⟨h1, h2⟩ => by
    rcases h1 with ⟨h0, v, he, la, lc, hv, hby, _⟩ | ⟨h0, he⟩
    · refine ⟨la, _, lc, ?_, ?_, rfl, h2⟩
      · rw [he, hv]
        unfold ldN ldT
        rw [h0, if_pos rfl, if_pos rfl, errV0]
      · unfold ldT; rw [if_pos h0]; exact hby
    · refine ⟨none, 0, 0, ?_, ?_, ?_, h2⟩
      · rw [he]
        unfold ldN errV
        rw [if_neg h0, if_neg h0]
        rfl
      · unfold ldT; rw [if_neg h0]; exact bytesIn_nil _ _
      · unfold ldT; rw [if_neg h0]; rfl
end Go.Proofs.YthaihallfjjnpaaGreatDoor
