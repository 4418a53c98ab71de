/- A table that is handed in is no greater than a machine can reach. -/
import Derived.Test.YtlgnllnjhpihdaaDoorTbRow
namespace Go.Proofs.YtlgnllnjhpihdaaDoor
open Go.ChangeShapes Go.WideShapes Go.ChangeAt Go.RowKit

theorem bytesC : Tryd.prog.bytesOf 55 = 32 := by kernel_rfl
theorem names_mem {H : Type} : ∀ (cs : List Col) (c : Col), c ∈ cs → c.nm.data.toList.length ∈ DataW.weightsAll Tryd.prog 55 (cs.map (datC (H := H)))
  | [], c, h => by simp at h
  | x :: cs, c, h => by
    simp only [List.map_cons, DataW.weightsAll, List.mem_append]
    rcases List.mem_cons.1 h with rfl | h
    · left
      simp [datC, DataW.weights, DataW.weightsEach, Tryd.underlying55]
    · exact .inr (names_mem cs c h)
theorem tab_lim {H : Type} {ts : List TypeId} {ds : List (DataW H)} {nm : ByteArray} {d1 : DataW H} {cs : List Col} (h : (DataW.weightsEach Tryd.prog ts ds).all (· ≤ reachBytes) = true) {j : Nat} (ht : ts[j]? = some 24)
    (hd : ds[j]? = some (.agg [.lit (.string nm.data.toList), d1])) (hcase : (d1 = .nil ∧ cs = []) ∨ ∃ spare, d1 = .slice (cs.map datC) spare) :
    nm.size ≤ 140737488351232 ∧ cs.length * 32 ≤ 140737488351232 ∧ ∀ c ∈ cs, c.nm.size ≤ 140737488351232 := by
  have e : reachBytes = 140737488351232 := by decide
  have all : ∀ n ∈ (DataW.agg [.lit (.string nm.data.toList), d1] : DataW H).weights Tryd.prog 24, n ≤ 140737488351232 := fun n hn => by
    have := List.all_eq_true.1 h _ (DataW.weights_mem_each (P := Tryd.prog) ht hd n hn)
    simpa [e] using this
  refine ⟨?_, ?_, ?_⟩
  · have := all nm.data.toList.length (by simp [DataW.weights, DataW.weightsEach, Tryd.underlying24])
    rw [size_lst]; exact this
  · rcases hcase with ⟨_, rfl⟩ | ⟨spare, rfl⟩
    · simp
    · have := all (((cs.map (datC (H := H))).length + spare.length) * Tryd.prog.bytesOf 55) (by simp [DataW.weights, DataW.weightsEach, Tryd.underlying24, Tryd.underlying22])
      rw [bytesC, List.length_map] at this
      omega
  · intro c hc
    rcases hcase with ⟨_, rfl⟩ | ⟨spare, rfl⟩
    · simp at hc
    · have hm := names_mem (H := H) cs c hc
      have := all c.nm.data.toList.length (by
        simp only [DataW.weights, DataW.weightsEach, Tryd.underlying24, Tryd.underlying22, List.map_cons, List.map_nil, List.mem_append, List.mem_cons, List.append_nil]
        exact .inr (.inr (.inl hm)))
      rw [size_lst]; exact this
end Go.Proofs.YtlgnllnjhpihdaaDoor
