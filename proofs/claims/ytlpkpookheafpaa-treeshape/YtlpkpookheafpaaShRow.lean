/- node.asRow. -/
import Derived.Test.YtlpkpookheafpaaShMath
import Derived.Test.YtlpkpookheafpaaVStep
import Derived.Test.YtlpkpookheafpaaVTree
namespace Go.Proofs.Ytlpkpookheafpaa
open Go.RowKit Go.Sort

theorem asRow_none (w : World) : Calls Try.prog 37 #[.pointer none] w fun e w' => e = .returned (.slice none 0 0) ∧ w' = w := by
  go_enter Try.func37, Try.ntmps37
  go_wp2_with fail
  go_ret
  exact ⟨rfl, rfl⟩
set_option maxRecDepth 100000 in
theorem asRow_ (w : World) (q : Nat) : Calls Try.prog 37 #[.pointer (some ⟨q, 0, none⟩)] w fun e w' => e = .returned (.slice (some ⟨w.heap.size, 0, none⟩) 1 1) ∧ Below w.heap.size w w' ∧ RowP w' (.slice (some ⟨w.heap.size, 0, none⟩) 1 1) [q] := by
  obtain ⟨U, hU⟩ : ∃ U, U = w.alloc (.cells (cP [q]).toArray 52) := ⟨_, rfl⟩
  have hrb : Hid (∀ (a : Act) (o : Oper) (z : Operand), o.op = .buildSlice 56 1 #[(0, z)] → a.eval z = pt q → (execOp a.eval o).run Try.prog w = .ok (.value (.slice (some ⟨w.heap.size, 0, none⟩) 1 1)) U) := fun a o z h1 h2 => by rw [hU]; exact run_buildP w q a o z h1 h2
  have HB : Hid (Below w.heap.size w U ∧ RowP U (.slice (some ⟨w.heap.size, 0, none⟩) 1 1) [q]) := by
    show _ ∧ _
    rw [hU]
    exact ⟨below_alloc w _, row_mk (new_blk w _) (Nat.le_refl _) (by decide) rfl rfl⟩
  clear hU
  go_enter Try.func37, Try.ntmps37
  go_wp2_with (first
    | (refine wpList_exec rfl (hrb.out _ _ _ rfl rfl) ?_)
    | fail)
  go_ret
  exact ⟨rfl, HB.out⟩
end Go.Proofs.Ytlpkpookheafpaa
