/- A text within a value that is handed in is no longer than a machine can reach. -/
import Derived.Test.YtfplncbechidnaaDoorRow
namespace Go.Proofs.YtfplncbechidnaaDoor
open Go.ChangeShapes Go.WideShapes Go.ChangeAt Go.RowKit Go.Joins

theorem val_lim {H : Type} {ts : List TypeId} {ds : List (DataW H)} {k n : Int} {t : ByteArray} {b : Bool} (h : (DataW.weightsEach Tryd.prog ts ds).all (· ≤ reachBytes) = true) {j : Nat} (ht : ts[j]? = some 23)
    (hd : ds[j]? = some (.agg [.lit (.int .i64 k), .lit (.int .i64 n), .lit (.string t.data.toList), .lit (.bool b)])) : t.size ≤ 140737488351232 := by
  have hm := DataW.weights_mem_each (P := Tryd.prog) ht hd t.data.toList.length (by simp [DataW.weights, DataW.weightsEach, Tryd.underlying23])
  have hle := List.all_eq_true.1 h _ hm
  have e : reachBytes = 140737488351232 := by decide
  rw [size_list]
  simpa [e] using hle
end Go.Proofs.YtfplncbechidnaaDoor
