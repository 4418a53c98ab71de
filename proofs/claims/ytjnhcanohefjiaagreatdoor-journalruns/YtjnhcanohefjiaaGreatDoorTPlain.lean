/- What is read and opened, plainly. -/
import Derived.Test.YtjnhcanohefjiaaGreatDoorKMath
import Derived.Test.YtjnhcanohefjiaaGreatDoorCMath
namespace Go.Proofs.YtjnhcanohefjiaaGreatDoor

def rdT (xs : List Nat) (most : Int) : List Nat × Nat × Nat :=
  if most < 0 then ([], 0, 1) else if (rdU xs).2.2 ≠ 0 then ([], 0, (rdU xs).2.2) else if most < (rdU xs).1 then ([], 0, 2) else if xs.length - (rdU xs).2.1 < (rdU xs).1 then ([], 0, 12)
  else ((xs.drop (rdU xs).2.1).take (rdU xs).1, (rdU xs).2.1 + (rdU xs).1, 0)
/-- What is opened. -/
def opn (xs : List Nat) : List Nat × Nat :=
  if xs.length < 4 then ([], 12) else if xs.drop (xs.length - 4) = four (sm 0 (xs.take (xs.length - 4))) then (xs.take (xs.length - 4), 0) else ([], 11)
end Go.Proofs.YtjnhcanohefjiaaGreatDoor
