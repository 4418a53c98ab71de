/- The document's journal, and its Room. -/
import Derived.Test.YtjnhcanohefjiaaGreatDoorJMem
import Derived.Test.YtjnhcanohefjiaaGreatDoorRT
import Derived.Test.YtjnhcanohefjiaaGreatDoorJArea
import Derived.BigQuiet
namespace Go.Proofs.YtjnhcanohefjiaaGreatDoor
open Go.RowKit Go.Sort Go.Maps

/-- The document's journal as a value: the ends lie in a row that nobody writes to. -/
def rjV (J : Jr) (ea : Option Addr) (ec : Nat) : Value := .agg #[.int .i64 J.a.g, .int .i64 J.a.f, .int .i64 J.a.s, .int .u64 J.ep, .string (bs J.row), .slice ea J.ends.length ec, .int .i64 (J.upto J.sf : Nat), .int .i64 (J.pss.length - J.sf : Nat), .int .i64 (J.dead : Nat)]
set_option maxRecDepth 100000 in
set_option maxHeartbeats 400000 in
theorem rroom_ {J : Jr} (hok : okJ J) (ea : Option Addr) (ec : Nat) (w : World) :
    Calls Tryz.prog 15 #[rjV J ea ec] w fun e w' => e = .returned (.int .i64 (64 * J.a.s - (J.row.length : Nat))) ∧ Below w.heap.size w w' := by
  have hl : (bs J.row).size = J.row.length := bs_size _
  have h1 := hok.len
  have h2 := hok.s
  unfold rjV
  generalize J.a.g = g at *
  generalize J.a.f = f at *
  generalize J.a.s = s at *
  generalize J.ep = ep at *
  generalize bs J.row = row at *
  generalize J.row.length = L at *
  generalize J.ends.length = en at *
  generalize J.upto J.sf = sf at *
  generalize J.pss.length - J.sf = wt at *
  generalize J.dead = dd at *
  have h3 : (L : Int) ≤ 64 * s := by omega
  have h4 : 64 * s ≤ 1048576 := by omega
  have h5 : 1 ≤ s := by omega
  clear hok h1 h2
  have hw1 := wraps_i64 (64 * s) (by omega) (by omega)
  have hw2 := wraps_i64 (64 * s - (L : Int)) (by omega) (by omega)
  go_enter Tryz.func15, Tryz.ntmps15
  go_wp2_with fail
  go_ret
  exact ⟨rfl, below_alloc w _⟩
end Go.Proofs.YtjnhcanohefjiaaGreatDoor
