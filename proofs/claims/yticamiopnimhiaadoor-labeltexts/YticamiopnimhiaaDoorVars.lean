/- What the rows with a text among the arguments share: the two errors of the library that a parse may read; the text's length. -/
import Derived.Test.YticamiopnimhiaaDoorRow
import Derived.SizedLaws
namespace Go.Proofs.YticamiopnimhiaaDoor
open Go.ChangeShapes Go.WideShapes Go.ChangeAt Go.RowKit Go.Joins

theorem gSyn : Tryd.prog.globalNamed "strconv.ErrSyntax" = some 2 := by kernel_rfl
theorem gRan : Tryd.prog.globalNamed "strconv.ErrRange" = some 3 := by kernel_rfl
theorem gSynT : (Tryd.prog.globals[2]?).map (·.type) = some 26 := by kernel_rfl
theorem gRanT : (Tryd.prog.globals[3]?).map (·.type) = some 26 := by kernel_rfl

theorem vars_of_laid {W : World} (h : laidMet Tryd.prog Rows.labelBackRow.laid W) : Vars W := by
  obtain ⟨ps, ⟨g0, t0, cs0, f0, p0, q0, hg0, ht0, hv0, hd0, ⟨g1, t1, cs1, f1, p1, q1, hg1, ht1, hv1, hd1, ⟨g2, t2, cs2, f2, p2, q2, hg2, ht2, hv2, hd2, ⟨g3, t3, cs3, f3, p3, q3, hg3, ht3, hv3, hd3, ⟨g4, t4, cs4, f4, p4, q4, hg4, ht4, hv4, hd4, _, _⟩, _⟩, _⟩, _⟩, _⟩, _, _⟩ := h
  obtain rfl := Option.some.inj (gRan.symm.trans hg3)
  obtain rfl := Option.some.inj (gSyn.symm.trans hg4)
  obtain rfl := Option.some.inj (gRanT.symm.trans ht3)
  obtain rfl := Option.some.inj (gSynT.symm.trans ht4)
  obtain ⟨_, u3, v3, e3, _, _⟩ := iface_of_trod Tryd.underlying26 hd3
  obtain ⟨_, u4, v4, e4, _, _⟩ := iface_of_trod Tryd.underlying26 hd4
  have c3 := World.var?_cell hg3 hv3 0
  have c4 := World.var?_cell hg4 hv4 0
  rw [Array.eq_one_of_toList e3] at c3
  rw [Array.eq_one_of_toList e4] at c4
  exact ⟨_, _, ⟨by simpa using c4, Or.inr ⟨_, _, rfl⟩⟩, ⟨by simpa using c3, Or.inr ⟨_, _, rfl⟩⟩⟩

/-- A text that is handed in takes no more bytes than a machine has. -/
theorem text_lim {s : ByteArray} (h : s.data.toList.length ≤ reachBytes) : s.size ≤ 281474976710656 := by
  have h2 := reachBytes_lt
  have e3 : (2 : Nat) ^ 47 = 140737488355328 := by decide
  rw [size_list]
  omega
end Go.Proofs.YticamiopnimhiaaDoor
