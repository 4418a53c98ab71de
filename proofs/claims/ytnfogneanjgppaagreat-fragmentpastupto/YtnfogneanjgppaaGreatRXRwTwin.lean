/- The walk of the law's 'twin'. -/
import Derived.Test.YtnfogneanjgppaaGreatJ24
namespace Go.Proofs.YtnfogneanjgppaaGreat.Rw
open Go.RowKit Go.Sort

end Go.Proofs.YtnfogneanjgppaaGreat.Rw
