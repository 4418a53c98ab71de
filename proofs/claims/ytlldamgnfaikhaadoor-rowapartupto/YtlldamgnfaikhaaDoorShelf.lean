/- Nothing of Go's library is asked for here. -/
import Derived.Test.YtlldamgnfaikhaaDoorProg
