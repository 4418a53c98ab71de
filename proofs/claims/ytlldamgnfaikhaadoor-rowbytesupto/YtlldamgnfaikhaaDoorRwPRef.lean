/- The walks of the document's Ints and Int. -/
import Derived.Test.YtlldamgnfaikhaaDoorRwPack
import Derived.Test.YtlldamgnfaikhaaDoorKRef
import Derived.Test.YtlldamgnfaikhaaDoorKRefRead
namespace Go.Proofs.YtlldamgnfaikhaaDoor
open Go.RowKit Go.Sort

set_option maxRecDepth 100000 in
set_option maxHeartbeats 1000000 in
theorem rints_ (n : Int) (w : World) (h0 : -9223372036854775808 ≤ n) (h1 : n ≤ 9223372036854775807) : Calls Tryd.prog 19 #[.int .i64 n] w (Laid w (enc (zz n))) := by
  have HU := Lib.hid (uints_ (zz n) w (zz_lt n h0 h1))
  have hz := int_zz h0 h1
  generalize enc (zz n) = es at *
  generalize zz n = z at *
  by_cases hneg : n < 0
  · rw [if_pos hneg] at hz
    go_enter Tryd.func19, Tryd.ntmps19
    go_wp2_with fail
    have e : (2 * -(n + 1) + 1 : Int) = z := by omega
    first
      | rw [e]
      | rw [show IntKind.u64.wrap (IntKind.u64.wrap (2 * IntKind.u64.wrap (-(n + 1))) + 1) = z by simp only [IntKind.wrap_u64]; omega]
    refine HU.out.mono ?_
    rintro e w1 ⟨g, c1, rfl, h2, h3⟩
    go_wp2_with fail
    go_ret
    exact ⟨g, c1, rfl, h2, h3⟩
  · rw [if_neg hneg] at hz
    go_enter Tryd.func19, Tryd.ntmps19
    go_wp2_with fail
    rw [← hz]
    refine HU.out.mono ?_
    rintro e w1 ⟨g, c1, rfl, h2, h3⟩
    go_wp2_with fail
    go_ret
    exact ⟨g, c1, rfl, h2, h3⟩

set_option maxRecDepth 100000 in
set_option maxHeartbeats 1000000 in
theorem rint_ (a : Option Addr) (xs : List Nat) (c : Nat) (w : World) (h : BytesIn w a xs) (hb : ∀ x ∈ xs, x < 256) (hlim : xs.length ≤ 9223372036854775807) :
    Calls Tryd.prog 22 #[.slice a xs.length c] w fun e w' => e = .returned (.tuple #[.int .i64 (rdI xs).1, .int .i64 (rdI xs).2.1, .int .i64 (rdI xs).2.2]) ∧ w' = w := by
  have HU := Lib.hid (ruint_ a xs c w h hb hlim)
  have hlt := (rdU_lt xs hb).1
  unfold rdI
  generalize rdU xs = R at *
  obtain ⟨v, k, e⟩ := R
  clear h hb
  generalize xs.length = len at *
  simp only at hlt
  by_cases hm : v % 2 = 1
  · have hu : unzz v = -((v : Int) / 2) - 1 := by unfold unzz; rw [if_pos hm]; omega
    have hi1 : ((v : Int) % 2 == 1) = true := by rw [beq_iff_eq]; omega
    rw [hu]
    clear hu
    go_enter Tryd.func22, Tryd.ntmps22
    go_wp2_with fail
    refine HU.out.mono ?_
    rintro e w1 ⟨rfl, rfl⟩
    go_wp2_with fail
    go_ret3
    exact ⟨rfl, rfl⟩
  · have hu : unzz v = (v : Int) / 2 := by unfold unzz; rw [if_neg hm]; omega
    have hi1 : ((v : Int) % 2 == 1) = false := by rw [beq_eq_false_iff_ne]; omega
    rw [hu]
    clear hu
    go_enter Tryd.func22, Tryd.ntmps22
    go_wp2_with fail
    refine HU.out.mono ?_
    rintro e w1 ⟨rfl, rfl⟩
    go_wp2_with fail
    go_ret3
    exact ⟨rfl, rfl⟩

end Go.Proofs.YtlldamgnfaikhaaDoor
