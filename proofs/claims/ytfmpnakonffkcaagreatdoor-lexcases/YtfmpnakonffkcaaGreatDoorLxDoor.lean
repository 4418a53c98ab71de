/- What the row's listed variables give the walks. -/
import Derived.Test.YtfmpnakonffkcaaGreatDoorLxEnv
import Derived.Test.YtfmpnakonffkcaaGreatDoorCards
import Derived.Test.YtfmpnakonffkcaaGreatDoorTie
import Derived.ProofKit
import Derived.LaidMore
import Derived.LaidHandle
import Derived.LaidEql
import Derived.OpenShut
import Derived.Stop.Joined
import Derived.Lib.SmallJoins
import Derived.Lib.LaidTab
import Derived.SizedLaws
import Derived.Carry
import Derived.Shelf.Vars
import Derived.Deep.DeepHandedRow
import Derived.Deep.DeepWitnessRowRef
namespace Go.Proofs.YtfmpnakonffkcaaGreatDoor
open Go.ChangeShapes Go.WideShapes Go.ChangeAt Go.RowKit Go.Joins

theorem own : ownKnob Tryz.prog.godebug = none := by kernel_rfl
theorem i64_in {x : Int} (h : (Lit.int .i64 x).wf = true) : inI x := by
  simp only [Lit.wf, Bool.and_eq_true, decide_eq_true_eq] at h
  exact h
/-- The powers of ten stand third on every row's list. -/
theorem pow_of_laid {n0 n1 : String} {d0 d1 : DataW Unit} {rest : List (String × DataW Unit)} {W : World} (h : laidMet Tryz.prog ((n0, d0) :: (n1, d1) :: ("internal/strconv.uint64pow10", Rows.laid_internal_strconv_uint64pow10) :: rest) W) :
    Lib.TabIs Tryz.prog W "internal/strconv.uint64pow10" .u64 Lib.pow10Tab := by
  obtain ⟨ps, ⟨g0, t0, cs0, f0, p0, q0, hg0, ht0, hv0, hd0, ⟨g1, t1, cs1, f1, p1, q1, hg1, ht1, hv1, hd1, ⟨g2, t2, cs2, f2, p2, q2, hg2, ht2, hv2, hd2, _, _⟩, _⟩, _⟩, _⟩ := h
  obtain rfl := Option.some.inj (gPow.symm.trans hg2)
  obtain rfl := Option.some.inj ((show (Tryz.prog.globals[7]?).map (·.type) = some 147 by kernel_rfl).symm.trans ht2)
  unfold Lib.TabIs
  have hd : DataW.trod (H := Unit) _ Tryz.prog W _ _ _ _ 147 cs2.toList = some (Lib.tabData .u64 Lib.pow10Tab, p2) := hd2
  have e := Lib.cells_of_tab Tryz.underlying147 Tryz.underlying87 (by kernel_rfl) (by kernel_rfl) hd
  rw [hv2, ← e]
theorem max_of_shape {W : World} (h : W.ShapedOpen Tryz.prog) : ∃ m, W.cell? ⟨2, 0, none⟩ = some (.int .i64 m) :=
  cell_of_shapedOpen_int (g := 2) (t := 3) (zero := #[.int .i64 0]) h (by decide +kernel) (by kernel_rfl) rfl (by kernel_rfl) (by kernel_rfl) Tryz.underlying3
theorem gRan : Tryz.prog.globalNamed "strconv.ErrRange" = some 6 := by kernel_rfl
theorem gRanT : (Tryz.prog.globals[6]?).map (·.type) = some 24 := by kernel_rfl
/-- The error stands fifth on the list. -/
theorem ran_of_laid {n0 n1 n2 n3 : String} {d0 d1 d2 d3 : DataW Unit} {rest : List (String × DataW Unit)} {W : World}
    (h : laidMet Tryz.prog ((n0, d0) :: (n1, d1) :: (n2, d2) :: (n3, d3) :: ("strconv.ErrRange", Rows.laid_strconv_ErrRange) :: rest) W) : ∃ e3, W.cell? ⟨6, 0, none⟩ = some e3 ∧ (e3 = .nilIface ∨ ∃ te pe, e3 = .iface te pe) := by
  obtain ⟨ps, ⟨g0, t0, cs0, f0, p0, q0, hg0, ht0, hv0, hd0, ⟨g1, t1, cs1, f1, p1, q1, hg1, ht1, hv1, hd1, ⟨g2, t2, cs2, f2, p2, q2, hg2, ht2, hv2, hd2, ⟨g9, t9, cs9, f9, p9, q9, hg9, ht9, hv9, hd9, ⟨g3, t3, cs3, f3, p3, q3, hg3, ht3, hv3, hd3, _, _⟩, _⟩, _⟩, _⟩, _⟩, _⟩ := h
  obtain rfl := Option.some.inj (gRan.symm.trans hg3)
  obtain rfl := Option.some.inj (gRanT.symm.trans ht3)
  obtain ⟨_, u3, v3, e3, _, _⟩ := iface_of_trod Tryz.underlying24 hd3
  have c3 := World.var?_cell hg3 hv3 0
  rw [Array.eq_one_of_toList e3] at c3
  exact ⟨_, by simpa using c3, Or.inr ⟨_, _, rfl⟩⟩
theorem env_of {n0 n1 n3 : String} {d0 d1 d3 : DataW Unit} {rest : List (String × DataW Unit)} {W : World}
    (h : laidMet Tryz.prog ((n0, d0) :: (n1, d1) :: ("internal/strconv.uint64pow10", Rows.laid_internal_strconv_uint64pow10) :: (n3, d3) :: ("strconv.ErrRange", Rows.laid_strconv_ErrRange) :: rest) W) (hs : W.ShapedOpen Tryz.prog) : Env W :=
  ⟨max_of_shape hs, pow_of_laid h, ran_of_laid h⟩
end Go.Proofs.YtfmpnakonffkcaaGreatDoor
