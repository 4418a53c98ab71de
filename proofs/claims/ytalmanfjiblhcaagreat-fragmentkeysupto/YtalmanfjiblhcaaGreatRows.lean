/-
  No cell of these rows narrows 'for every input' (looked for: loops, veiled, ifaces, maps, wideKeys, modest, calm, conditions, laid).
  DERIVED. THE GIVEN ROWS OF THIS SEAT. 2 by the template 'for every input the law returns true; each argument reads behind the call as it read before'; 0 by the template 'total and deterministic' (their statements: YtalmanfjiblhcaaGreatTotals.lean).
  GIVEN WITH THE SEED: the statements are not yours to turn. If you find one false, say at which input.
  Laid BY PROGRAM, IN A SANDBOX (cutbox-rows.mjs): the forced cells as the released guide's own fill.sh prints them over the translation b10699e5f1874ba4… (all of the seat's roots in one cut). By AI agents, Wed Nov 11 2026. No macro, syntax, notation, axiom, sorry.
-/
import Derived.Test.YtalmanfjiblhcaaGreatChecked
import GoSem.Claim
import GoSem.ClaimJoined
import GoSem.ClaimMapViews
import Derived.JoinedTies
import Derived.KernelRfl
namespace Go.Proofs.YtalmanfjiblhcaaGreat
/- THE CELL 'sum', in the pinned program and in every row, IS THE sha256 OF THE DUMP (.gsa) THAT YtalmanfjiblhcaaGreatProg.lean LOADS. Nothing in Lean hashes anything: it is a label: what it is worth is what the hold of that sum in a sandbox is worth. -/
noncomputable def Tryz.pinned : Pinned := { name := "ytalmanfjiblhcaagreat", sum := "b10699e5f1874ba4bf9349f498b208c6c6f2d919c7a6e483813bde3e9b693625", checked := Tryz.checked }
namespace Rows
def none {H : Type} : Left H := { results := [], args := [] }

/-- 'barbicanlaw17.FragmentPast': WHATEVER THE INPUT: true; the input reads as it did. -/
def fragmentPastSpec : ChangeSpec := { name := "fragmentPast", fn := fun _ => fun
  | [d1, d2, d3] => { results := [.lit (.bool true)], args := [d1, d2, d3] }
  | _ => none }
def fragmentPastRow : OpenClaim := { program := "ytalmanfjiblhcaagreat", sum := "b10699e5f1874ba4bf9349f498b208c6c6f2d919c7a6e483813bde3e9b693625", func := "barbican/barbicanlaw17.FragmentPast", spec := "fragmentPast", inPlace := ["internal/bytealg.abigen_runtime_cmpstring", "slices.overlaps[barbican/tree.item[barbican/version.chain]]", "slices.overlaps[*barbican/tree.node[barbican/version.chain]]"], unfollowed := true, recurses := true, plainKeys := false, apart := false }
def FragmentPastSaid : Prop := fragmentPastRow.holds Tryz.pinned (OpenSpec.ofChange fragmentPastSpec)

/-- ITS FALSE NEIGHBOUR: 'it returns false'. Refute it at one input. -/
def fragmentPastWrong : ChangeSpec := { name := "fragmentPast", fn := fun _ => fun
  | [d1, d2, d3] => { results := [.lit (.bool false)], args := [d1, d2, d3] }
  | _ => none }
def FragmentPastWrongFalsely : Prop := fragmentPastRow.holds Tryz.pinned (OpenSpec.ofChange fragmentPastWrong)

/-- 'barbicanlaw17.FragmentKeys': WHATEVER THE INPUT: true; the input reads as it did. -/
def fragmentKeysSpec : ChangeSpec := { name := "fragmentKeys", fn := fun _ => fun
  | [d1, d2, d3] => { results := [.lit (.bool true)], args := [d1, d2, d3] }
  | _ => none }
def fragmentKeysRow : OpenClaim := { program := "ytalmanfjiblhcaagreat", sum := "b10699e5f1874ba4bf9349f498b208c6c6f2d919c7a6e483813bde3e9b693625", func := "barbican/barbicanlaw17.FragmentKeys", spec := "fragmentKeys", inPlace := ["internal/bytealg.abigen_runtime_cmpstring", "slices.overlaps[barbican/tree.item[barbican/version.chain]]", "slices.overlaps[*barbican/tree.node[barbican/version.chain]]"], unfollowed := true, recurses := true, plainKeys := false, apart := false }
def FragmentKeysSaid : Prop := fragmentKeysRow.holds Tryz.pinned (OpenSpec.ofChange fragmentKeysSpec)

/-- ITS FALSE NEIGHBOUR: 'it returns false'. Refute it at one input. -/
def fragmentKeysWrong : ChangeSpec := { name := "fragmentKeys", fn := fun _ => fun
  | [d1, d2, d3] => { results := [.lit (.bool false)], args := [d1, d2, d3] }
  | _ => none }
def FragmentKeysWrongFalsely : Prop := fragmentKeysRow.holds Tryz.pinned (OpenSpec.ofChange fragmentKeysWrong)

/- THE SECOND FORM. 'bulk': how many values and letters a reading holds, each counted each time it is reached (what is shared counts as often as it is met; a slice's spare places count too). A statement '..UptoSaid' is the law's where the arguments, and the package variables that the reading takes, are together of bulk at most 1048576: NARROWER than '..Said'. Prove '..Said' where nothing that the law and all that it calls make is longer than what came in: it says more and counts as full. Else prove '..UptoSaid'. A law counts once. -/
mutual
def uptoBulk {H : Type} : DataW H → Nat
  | .lit (.string bytes) => bytes.length + 1
  | .lit _ => 1
  | .nil => 1
  | .ptr d => uptoBulk d + 1
  | .slice elems spare => uptoBulkAll elems + uptoBulkAll spare + 1
  | .agg parts => uptoBulkAll parts + 1
  | .iface _ d => uptoBulk d + 1
  | .map entries => uptoBulkEntries entries + 1
  | .held _ => 1
def uptoBulkAll {H : Type} : List (DataW H) → Nat
  | [] => 0
  | d :: r => uptoBulk d + uptoBulkAll r
def uptoBulkEntries {H : Type} : List (Lit × DataW H) → Nat
  | [] => 0
  | x :: r => uptoBulkEntry x + uptoBulkEntries r
def uptoBulkEntry {H : Type} : Lit × DataW H → Nat
  | (.string bytes, d) => bytes.length + uptoBulk d + 1
  | (_, d) => uptoBulk d + 1
 end
def uptoSmall : (H : Type) → List (DataW H) → Bool := fun _ ds => decide (uptoBulkAll ds ≤ 1048576)
def OpenSpec.upto (s : _root_.Go.ChangeSpec) : _root_.Go.OpenSpec := { _root_.Go.OpenSpec.ofChange s with cond := some uptoSmall }

/-- 'barbicanlaw17.FragmentPast', WHERE WHAT IT READS IS OF BULK AT MOST 1048576: true; the input reads as it did. -/
def fragmentPastUptoRow : OpenClaim := { program := "ytalmanfjiblhcaagreat", sum := "b10699e5f1874ba4bf9349f498b208c6c6f2d919c7a6e483813bde3e9b693625", func := "barbican/barbicanlaw17.FragmentPast", spec := "fragmentPast", inPlace := ["internal/bytealg.abigen_runtime_cmpstring", "slices.overlaps[barbican/tree.item[barbican/version.chain]]", "slices.overlaps[*barbican/tree.node[barbican/version.chain]]"], unfollowed := true, recurses := true, plainKeys := false, apart := false, narrowed := true }
def FragmentPastUptoSaid : Prop := fragmentPastUptoRow.holds Tryz.pinned (OpenSpec.upto fragmentPastSpec)

/-- 'barbicanlaw17.FragmentKeys', WHERE WHAT IT READS IS OF BULK AT MOST 1048576: true; the input reads as it did. -/
def fragmentKeysUptoRow : OpenClaim := { program := "ytalmanfjiblhcaagreat", sum := "b10699e5f1874ba4bf9349f498b208c6c6f2d919c7a6e483813bde3e9b693625", func := "barbican/barbicanlaw17.FragmentKeys", spec := "fragmentKeys", inPlace := ["internal/bytealg.abigen_runtime_cmpstring", "slices.overlaps[barbican/tree.item[barbican/version.chain]]", "slices.overlaps[*barbican/tree.node[barbican/version.chain]]"], unfollowed := true, recurses := true, plainKeys := false, apart := false, narrowed := true }
def FragmentKeysUptoSaid : Prop := fragmentKeysUptoRow.holds Tryz.pinned (OpenSpec.upto fragmentKeysSpec)

end Rows
end Go.Proofs.YtalmanfjiblhcaaGreat
