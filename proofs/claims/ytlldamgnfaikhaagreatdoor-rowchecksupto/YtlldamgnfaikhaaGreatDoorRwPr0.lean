/- What is printed of a value, plainly. -/
import Derived.Test.YtlldamgnfaikhaaGreatDoorLit
import Derived.Test.YtlldamgnfaikhaaGreatDoorOV1
namespace Go.Proofs.YtlldamgnfaikhaaGreatDoor
open Go.Lib

def nullW : List UInt8 := [78, 85, 76, 76]
def trueW : List UInt8 := [84, 82, 85, 69]
def falseW : List UInt8 := [70, 65, 76, 83, 69]
def printL (v : Val) : List UInt8 := if v.k = 1 then itoa v.n else if v.k = 2 then 39 :: (dbl v.t.data.toList ++ [39]) else if v.k = 3 then (if v.b = true then trueW else falseW) else nullW
end Go.Proofs.YtlldamgnfaikhaaGreatDoor
