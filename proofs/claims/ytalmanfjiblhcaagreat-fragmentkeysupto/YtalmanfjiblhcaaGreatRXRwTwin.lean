/- The walk of the law's 'twin'. -/
import Derived.Test.YtalmanfjiblhcaaGreatJ24
namespace Go.Proofs.YtalmanfjiblhcaaGreat.Rw
open Go.RowKit Go.Sort
end Go.Proofs.YtalmanfjiblhcaaGreat.Rw
