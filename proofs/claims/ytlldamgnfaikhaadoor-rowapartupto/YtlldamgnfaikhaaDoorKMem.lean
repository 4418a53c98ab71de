/- How bytes lie in memory; the walks of pack.Len, withRoom, lay, AppendUint, and of the law's twin. -/
import Derived.Test.YtlldamgnfaikhaaDoorChecked
import Derived.Test.YtlldamgnfaikhaaDoorKMath
import Derived.Test.YtlldamgnfaikhaaDoorKShelf
import Derived.WalkKit
import Derived.WalkSpells
import Derived.WalkLawsBesides
import Derived.OwnWalk
import Derived.Laws.BytesArg
import Derived.Lib.AppendStr
import Derived.Lib.QuietBelow
import Derived.Lib.Hide
import Derived.Deep.RegionWith
import Derived.Test.YtlldamgnfaikhaaDoorTMem
namespace Go.Proofs.YtlldamgnfaikhaaDoor
open Go.RowKit Go.Sort

set_option maxHeartbeats 400000 in
theorem len_ (n : Nat) (w : World) (hn : n < 18446744073709551616) :
    Calls Tryd.prog 50 #[.int .u64 n] w fun e w' => e = .returned (.int .i64 (enc n).length) ∧ w' = w := by
  have hl := enc_length n hn
  have hb := Lib.bitLen_le n 64 (by omega) (by omega)
  have H := Tryd.bits_Len64 n w (by omega) (by omega)
  rw [Int.toNat_natCast] at H
  generalize Lib.bitLen n = k at *
  generalize (enc n).length = m at *
  have H' := Lib.hid H
  clear H
  go_enter Tryd.func50, Tryd.ntmps50
  go_wp2_with fail
  refine H'.out.mono ?_
  rintro e w1 ⟨rfl, rfl⟩
  go_wp2
  go_ret
  exact ⟨ret_int (by omega), rfl⟩
theorem not64 (n : Int) (h0 : -9223372036854775808 ≤ n) (h1 : n ≤ 9223372036854775807) : bits .xor .i64 (-1) n = -n - 1 := by
  show IntKind.i64.wrap ((BitVec.ofInt 64 (-1) ^^^ BitVec.ofInt 64 n).toNat : Int) = _
  rw [show BitVec.ofInt 64 (-1) = BitVec.allOnes 64 by decide, BitVec.allOnes_xor, BitVec.toNat_not, BitVec.toNat_ofInt, IntKind.wrap_i64]
  omega
end Go.Proofs.YtlldamgnfaikhaaDoor
