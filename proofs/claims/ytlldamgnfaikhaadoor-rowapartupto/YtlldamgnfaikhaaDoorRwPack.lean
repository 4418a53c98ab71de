/- The walks of pack.AppendInt and pack.Int. -/
import Derived.Test.YtlldamgnfaikhaaDoorKAppU
import Derived.Test.YtlldamgnfaikhaaDoorKRead
namespace Go.Proofs.YtlldamgnfaikhaaDoor
open Go.RowKit Go.Sort

theorem int_zz {n : Int} (h0 : -9223372036854775808 ≤ n) (h1 : n ≤ 9223372036854775807) : (zz n : Int) = if n < 0 then -2 * n - 1 else 2 * n := by
  unfold zz
  split <;> omega
set_option maxRecDepth 100000 in
set_option maxHeartbeats 1000000 in
theorem appI_ (a : Option Addr) (xs : List Nat) (c l : Nat) (n : Int) (w : World) (hl : xs.length = l) (h : BytesIn w a xs) (hc : a = none → c = 0) (h0 : -9223372036854775808 ≤ n) (h1 : n ≤ 9223372036854775807) (hlim : xs.length ≤ 281474976710646) :
    Calls Tryd.prog 30 #[.slice a l c, .int .i64 n] w (Laid w (xs ++ enc (zz n))) := by
  have HU := Lib.hid (appU_ a xs c (zz n) l w hl h hc (zz_lt n h0 h1) hlim)
  have hz := int_zz h0 h1
  generalize xs ++ enc (zz n) = es at *
  generalize zz n = z at *
  clear h hc hlim
  by_cases hneg : n < 0
  · rw [if_pos hneg] at hz
    have hnot := not64 n h0 h1
    go_enter Tryd.func30, Tryd.ntmps30
    go_wp2_with fail
    have e : IntKind.u64.wrap (IntKind.u64.wrap (2 * IntKind.u64.wrap (-n - 1)) + 1) = z := by simp only [IntKind.wrap_u64]; omega
    rw [e]
    refine HU.out.mono ?_
    rintro e w1 ⟨g, c1, rfl, h2, h3⟩
    go_wp2_with fail
    go_ret
    exact ⟨g, c1, rfl, h2, h3⟩
  · rw [if_neg hneg] at hz
    go_enter Tryd.func30, Tryd.ntmps30
    go_wp2_with fail
    rw [← hz]
    refine HU.out.mono ?_
    rintro e w1 ⟨g, c1, rfl, h2, h3⟩
    go_wp2_with fail
    go_ret
    exact ⟨g, c1, rfl, h2, h3⟩
set_option maxRecDepth 100000 in
set_option maxHeartbeats 1000000 in
theorem pint_ (a : Option Addr) (xs : List Nat) (c : Nat) (w : World) (h : BytesIn w a xs) (hb : ∀ x ∈ xs, x < 256) (hlim : xs.length ≤ 9223372036854775807) :
    Calls Tryd.prog 51 #[.slice a xs.length c] w fun e w' => e = .returned (.tuple #[.int .i64 (rdI xs).1, .int .i64 (rdI xs).2.1, errK (rdI xs).2.2]) ∧ w' = w := by
  have HU := Lib.hid (uint_ a xs c w h hb hlim)
  have hlt := (rdU_lt xs hb).1
  have herr := rdU_err xs
  unfold rdI
  generalize rdU xs = R at *
  obtain ⟨v, k, e⟩ := R
  clear h hb
  generalize xs.length = len at *
  simp only at herr hlt
  by_cases he : e = 0
  · subst he
    by_cases hm : v % 2 = 1
    · have hu : unzz v = -((v : Int) / 2) - 1 := by unfold unzz; rw [if_pos hm]; omega
      have hi1 : ((v : Int) % 2 == 1) = true := by rw [beq_iff_eq]; omega
      have hnot := not64 ((v : Int) / 2) (by omega) (by omega)
      rw [hu]
      clear hu herr
      go_enter Tryd.func51, Tryd.ntmps51
      go_wp2_with fail
      refine HU.out.mono ?_
      rintro e w1 ⟨rfl, rfl⟩
      unfold errK
      rw [if_pos rfl]
      go_wp2_with fail
      go_ret3
      exact ⟨rfl, rfl⟩
    · have hu : unzz v = (v : Int) / 2 := by unfold unzz; rw [if_neg hm]; omega
      have hi1 : ((v : Int) % 2 == 1) = false := by rw [beq_eq_false_iff_ne]; omega
      rw [hu]
      clear hu herr
      go_enter Tryd.func51, Tryd.ntmps51
      go_wp2_with fail
      refine HU.out.mono ?_
      rintro e w1 ⟨rfl, rfl⟩
      unfold errK
      rw [if_pos rfl]
      go_wp2_with fail
      go_ret3
      exact ⟨rfl, rfl⟩
  · obtain ⟨rfl, rfl⟩ := herr he
    have hu : unzz 0 = 0 := rfl
    rw [hu]
    simp only [errK_not he] at HU ⊢
    go_enter Tryd.func51, Tryd.ntmps51
    go_wp2_with fail
    refine HU.out.mono ?_
    rintro e w1 ⟨rfl, rfl⟩
    go_wp2_with fail
    go_ret3
    exact ⟨rfl, rfl⟩
end Go.Proofs.YtlldamgnfaikhaaDoor
