/- Bytes handed on: string(b), append of bytes to a row of one's own; the walks of the law's cut and sure. -/
import Derived.Test.YtjnhcanohefjiaaGreatDoorDRestart
import Derived.Lib.SlBytesConst
import Derived.Deep.AppendLies
namespace Go.Proofs.YtjnhcanohefjiaaGreatDoor
open Go.RowKit Go.Sort Go.Maps

end Go.Proofs.YtjnhcanohefjiaaGreatDoor
