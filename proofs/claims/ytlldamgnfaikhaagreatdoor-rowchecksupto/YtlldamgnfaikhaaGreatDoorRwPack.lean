/- The walks of pack.AppendInt and pack.Int. -/
import Derived.Test.YtlldamgnfaikhaaGreatDoorKAppU
import Derived.Test.YtlldamgnfaikhaaGreatDoorKRead
namespace Go.Proofs.YtlldamgnfaikhaaGreatDoor
open Go.RowKit Go.Sort

theorem int_zz {n : Int} (h0 : -9223372036854775808 ≤ n) (h1 : n ≤ 9223372036854775807) : (zz n : Int) = if n < 0 then -2 * n - 1 else 2 * n := by
  unfold zz
  split <;> omega
set_option maxRecDepth 100000 in
set_option maxHeartbeats 1000000 in
theorem appI_ (a : Option Addr) (xs : List Nat) (c l : Nat) (n : Int) (w : World) (hl : xs.length = l) (h : BytesIn w a xs) (hc : a = none → c = 0) (h0 : -9223372036854775808 ≤ n) (h1 : n ≤ 9223372036854775807) (hlim : xs.length ≤ 281474976710646) :
    Calls Tryz.prog 50 #[.slice a l c, .int .i64 n] w (Laid w (xs ++ enc (zz n))) := by
  have HU := Lib.hid (appU_ a xs c (zz n) l w hl h hc (zz_lt n h0 h1) hlim)
  have hz := int_zz h0 h1
  generalize xs ++ enc (zz n) = es at *
  generalize zz n = z at *
  clear h hc hlim
  by_cases hneg : n < 0
  · rw [if_pos hneg] at hz
    have hnot := not64 n h0 h1
    go_enter Tryz.func50, Tryz.ntmps50
    go_wp2_with fail
    have e : IntKind.u64.wrap (IntKind.u64.wrap (2 * IntKind.u64.wrap (-n - 1)) + 1) = z := by simp only [IntKind.wrap_u64]; omega
    rw [e]
    refine HU.out.mono ?_
    rintro e w1 ⟨g, c1, rfl, h2, h3⟩
    go_wp2_with fail
    go_ret
    exact ⟨g, c1, rfl, h2, h3⟩
  · rw [if_neg hneg] at hz
    go_enter Tryz.func50, Tryz.ntmps50
    go_wp2_with fail
    rw [← hz]
    refine HU.out.mono ?_
    rintro e w1 ⟨g, c1, rfl, h2, h3⟩
    go_wp2_with fail
    go_ret
    exact ⟨g, c1, rfl, h2, h3⟩
end Go.Proofs.YtlldamgnfaikhaaGreatDoor
