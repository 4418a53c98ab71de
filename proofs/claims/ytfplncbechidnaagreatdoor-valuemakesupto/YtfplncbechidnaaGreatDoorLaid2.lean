/- What the rows' listed errors of the library give the walks, where no type of errors is listed. -/
import Derived.Test.YtfplncbechidnaaGreatDoorRow
import Derived.Test.YtfplncbechidnaaGreatDoorW8
import Derived.LaidEql
namespace Go.Proofs.YtfplncbechidnaaGreatDoor
open Go.ChangeShapes Go.WideShapes Go.ChangeAt Go.RowKit Go.Joins

theorem gSyn : Tryz.prog.globalNamed "strconv.ErrSyntax" = some 5 := by kernel_rfl
theorem gRan : Tryz.prog.globalNamed "strconv.ErrRange" = some 6 := by kernel_rfl
theorem gSynT : (Tryz.prog.globals[5]?).map (·.type) = some 25 := by kernel_rfl
theorem gRanT : (Tryz.prog.globals[6]?).map (·.type) = some 25 := by kernel_rfl
/-- The two errors stand fifth and sixth on the list. -/
theorem errs_of_laid {n0 n1 n2 n3 : String} {d0 d1 d2 d3 : DataW Unit} {rest : List (String × DataW Unit)} {W : World}
    (h : laidMet Tryz.prog ((n0, d0) :: (n1, d1) :: (n2, d2) :: (n3, d3) :: ("strconv.ErrRange", Rows.laid_strconv_ErrRange) :: ("strconv.ErrSyntax", Rows.laid_strconv_ErrSyntax) :: rest) W) : Errs2 W := by
  obtain ⟨ps, ⟨g0, t0, cs0, f0, p0, q0, hg0, ht0, hv0, hd0, ⟨g1, t1, cs1, f1, p1, q1, hg1, ht1, hv1, hd1, ⟨g2, t2, cs2, f2, p2, q2, hg2, ht2, hv2, hd2, ⟨g9, t9, cs9, f9, p9, q9, hg9, ht9, hv9, hd9, ⟨g3, t3, cs3, f3, p3, q3, hg3, ht3, hv3, hd3, ⟨g4, t4, cs4, f4, p4, q4, hg4, ht4, hv4, hd4, _, _⟩, _⟩, _⟩, _⟩, _⟩, _⟩, _, _⟩ := h
  obtain rfl := Option.some.inj (gRan.symm.trans hg3)
  obtain rfl := Option.some.inj (gSyn.symm.trans hg4)
  obtain rfl := Option.some.inj (gRanT.symm.trans ht3)
  obtain rfl := Option.some.inj (gSynT.symm.trans ht4)
  obtain ⟨_, u3, v3, e3, _, _⟩ := iface_of_trod Tryz.underlying25 hd3
  obtain ⟨_, u4, v4, e4, _, _⟩ := iface_of_trod Tryz.underlying25 hd4
  have c3 := World.var?_cell hg3 hv3 0
  have c4 := World.var?_cell hg4 hv4 0
  rw [Array.eq_one_of_toList e3] at c3
  rw [Array.eq_one_of_toList e4] at c4
  exact ⟨_, _, ⟨by simpa using c4, Or.inr ⟨_, _, rfl⟩⟩, ⟨by simpa using c3, Or.inr ⟨_, _, rfl⟩⟩⟩
end Go.Proofs.YtfplncbechidnaaGreatDoor
