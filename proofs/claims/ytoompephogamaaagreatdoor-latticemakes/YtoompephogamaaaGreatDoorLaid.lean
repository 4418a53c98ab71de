/- What the rows' list of variables gives the walks: the library's type of errors, its two errors of parsing. -/
import Derived.Test.YtoompephogamaaaGreatDoorAs
import Derived.Test.YtoompephogamaaaGreatDoorRow
import Derived.LaidHandle
namespace Go.Proofs.YtoompephogamaaaGreatDoor
open Go.ChangeShapes Go.WideShapes Go.ChangeAt Go.RowKit Go.Joins

theorem gSyn : Tryz.prog.globalNamed "strconv.ErrSyntax" = some 2 := by kernel_rfl
theorem gRan : Tryz.prog.globalNamed "strconv.ErrRange" = some 3 := by kernel_rfl
theorem gSynT : (Tryz.prog.globals[2]?).map (·.type) = some 29 := by kernel_rfl
theorem gRanT : (Tryz.prog.globals[3]?).map (·.type) = some 29 := by kernel_rfl
theorem gErr : Tryz.prog.globalNamed "errors.errorType" = some 0 := by kernel_rfl
theorem errRow : ((List.range 184).filter fun t => Tryz.prog.rowNamed t [101, 114, 114, 111, 114]) = [29] := by kernel_rfl

theorem errType_of_laid {W : World} (h : laidMetH Tryz.prog Rows.latticeMakesRow.laid W) : ErrType W ∧ Vars W := by
  have h' : laidMet Tryz.prog [("math/bits.deBruijn32tab", Rows.laid_math_bits_deBruijn32tab), ("math/bits.deBruijn64tab", Rows.laid_math_bits_deBruijn64tab), ("internal/strconv.uint64pow10", Rows.laid_internal_strconv_uint64pow10), ("strconv.ErrRange", Rows.laid_strconv_ErrRange), ("strconv.ErrSyntax", Rows.laid_strconv_ErrSyntax)] W ∧ handlesMet Tryz.prog [("errors.errorType", Rows.laid_errors_errorType)] W := h
  refine ⟨?_, ?_⟩
  · obtain ⟨name, u, ty, e1, e2, e3, e4, e5⟩ := h'.2 _ (List.mem_singleton.2 rfl)
    have en : name = [101, 114, 114, 111, 114] := (Option.some.inj e1).symm
    subst en
    obtain rfl : u = 98 := Option.some.inj (e2.symm.trans (show _ = some 98 by kernel_rfl))
    have hm : ty ∈ (List.range 184).filter fun t => Tryz.prog.rowNamed t [101, 114, 114, 111, 114] := List.mem_filter.2 ⟨List.mem_range.2 (by rw [← typesSize]; exact e3), e4⟩
    rw [errRow] at hm
    obtain rfl := List.mem_singleton.1 hm
    have hh : typeHandle Tryz.prog 29 = .pointer (some ⟨7, 29, none⟩) := by kernel_rfl
    rw [hh] at e5
    have := World.var?_cell gErr e5 0
    unfold ErrType
    simpa using this
  · obtain ⟨ps, ⟨g0, t0, cs0, f0, p0, q0, hg0, ht0, hv0, hd0, ⟨g1, t1, cs1, f1, p1, q1, hg1, ht1, hv1, hd1, ⟨g2, t2, cs2, f2, p2, q2, hg2, ht2, hv2, hd2, ⟨g3, t3, cs3, f3, p3, q3, hg3, ht3, hv3, hd3, ⟨g4, t4, cs4, f4, p4, q4, hg4, ht4, hv4, hd4, _, _⟩, _⟩, _⟩, _⟩, _⟩, _, _⟩ := h'.1
    obtain rfl := Option.some.inj (gRan.symm.trans hg3)
    obtain rfl := Option.some.inj (gSyn.symm.trans hg4)
    obtain rfl := Option.some.inj (gRanT.symm.trans ht3)
    obtain rfl := Option.some.inj (gSynT.symm.trans ht4)
    obtain ⟨_, u3, v3, e3, _, _⟩ := iface_of_trod Tryz.underlying29 hd3
    obtain ⟨_, u4, v4, e4, _, _⟩ := iface_of_trod Tryz.underlying29 hd4
    have c3 := World.var?_cell hg3 hv3 0
    have c4 := World.var?_cell hg4 hv4 0
    rw [Array.eq_one_of_toList e3] at c3
    rw [Array.eq_one_of_toList e4] at c4
    exact ⟨_, _, ⟨by simpa using c4, Or.inr ⟨_, _, rfl⟩⟩, ⟨by simpa using c3, Or.inr ⟨_, _, rfl⟩⟩⟩
end Go.Proofs.YtoompephogamaaaGreatDoor
