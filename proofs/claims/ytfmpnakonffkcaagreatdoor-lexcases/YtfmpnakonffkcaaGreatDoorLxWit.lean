/- A world in which the row's listed variables stand as the program's start lays them; the two last of a list of them changed about. -/
import Derived.Test.YtfmpnakonffkcaaGreatDoorLxDoor
import Derived.Lib.LaidCaseMet
import Derived.PinnedBridge
namespace Go.Proofs.YtfmpnakonffkcaaGreatDoor
open Go.ChangeShapes Go.WideShapes Go.ChangeAt Go.RowKit Go.Joins Go.Shelf Go.Lib

theorem laidVars_swap {P : Program} {w : World} {a b : String × DataW Unit} : ∀ (l : List (String × DataW Unit)) (ps : List MemPlace), DataW.LaidVars P w (l ++ [a, b]) ps → ∃ qs, DataW.LaidVars P w (l ++ [b, a]) qs ∧ qs.Perm ps
  | [], ps, h => by
    obtain ⟨g, t, cs, fuel, p, q, h1, h2, h3, h4, ⟨g', t', cs', fuel', p', q', k1, k2, k3, k4, rfl, rfl⟩, rfl⟩ := h
    refine ⟨MemPlace.row ⟨g', 0, none⟩ cs'.size ++ p' ++ (MemPlace.row ⟨g, 0, none⟩ cs.size ++ p ++ []), ⟨g', t', cs', fuel', p', _, k1, k2, k3, k4, ⟨g, t, cs, fuel, p, [], h1, h2, h3, h4, rfl, rfl⟩, rfl⟩, ?_⟩
    simp only [List.append_nil]
    exact List.perm_append_comm
  | x :: l, ps, h => by
    obtain ⟨g, t, cs, fuel, p, q, h1, h2, h3, h4, hq, rfl⟩ := h
    obtain ⟨qs, hqs, hp⟩ := laidVars_swap l q hq
    exact ⟨_, ⟨g, t, cs, fuel, p, qs, h1, h2, h3, h4, hqs, rfl⟩, hp.append_left _⟩
theorem laidMet_swap {P : Program} {w : World} {a b : String × DataW Unit} {l : List (String × DataW Unit)} (h : laidMet P (l ++ [a, b]) w) : laidMet P (l ++ [b, a]) w := by
  obtain ⟨ps, h1, h2, h3⟩ := h
  obtain ⟨qs, hq, hp⟩ := laidVars_swap l ps h1
  exact ⟨qs, hq, hp.nodup_iff.2 h2, fun b off hm => h3 b off (hp.mem_iff.1 hm)⟩
theorem wit_case (os : Os) (args : Array Value) : laidMet Tryz.prog [("math/bits.deBruijn32tab", Rows.laid_math_bits_deBruijn32tab), ("math/bits.deBruijn64tab", Rows.laid_math_bits_deBruijn64tab), ("internal/strconv.uint64pow10", Rows.laid_internal_strconv_uint64pow10), ("unicode/utf8.acceptRanges", Rows.laid_unicode_utf8_acceptRanges), ("strconv.ErrRange", Rows.laid_strconv_ErrRange), ("strconv.ErrSyntax", Rows.laid_strconv_ErrSyntax), ("unicode.CaseRanges", Rows.laid_unicode_CaseRanges), ("unicode/utf8.first", Rows.laid_unicode_utf8_first)] (({ World.doorLaid Tryz.prog 79 os with heap := (((World.doorLaid Tryz.prog 79 os).heap.setIfInBounds 3 (.cells (Pinned.utf8FirstZ.map fun z : Nat => Value.int .u8 (z : Int)).toArray 131)).setIfInBounds 1 (.cells #[.slice (some ⟨(World.doorLaid Tryz.prog 79 default).heap.size, 0, none⟩) 336 336] (Tryz.lays159_ren.t 162))).push (.cells Lib.caseCells5 (Tryz.lays159_ren.t 208)) } : World).forCall (fun _ _ => 0) ⟨#[], args, []⟩).memory := by
  have h := laidMet_with_case (ρ := Tryz.lays159_ren) { Tryz.lays159 with } Tryz.lays159.t206 ⟨by kernel_rfl, by kernel_rfl, by kernel_rfl, by kernel_rfl, by kernel_rfl, by kernel_rfl⟩
    (w := (({ World.doorLaid Tryz.prog 79 os with heap := (((World.doorLaid Tryz.prog 79 os).heap.setIfInBounds 3 (.cells (Pinned.utf8FirstZ.map fun z : Nat => Value.int .u8 (z : Int)).toArray 131)).setIfInBounds 1 (.cells #[.slice (some ⟨(World.doorLaid Tryz.prog 79 default).heap.size, 0, none⟩) 336 336] (Tryz.lays159_ren.t 162))).push (.cells Lib.caseCells5 (Tryz.lays159_ren.t 208)) } : World).forCall (fun _ _ => 0) ⟨#[], args, []⟩).memory)
    (l := [("math/bits.deBruijn32tab", Rows.laid_math_bits_deBruijn32tab), ("math/bits.deBruijn64tab", Rows.laid_math_bits_deBruijn64tab), ("internal/strconv.uint64pow10", Rows.laid_internal_strconv_uint64pow10), ("unicode/utf8.acceptRanges", Rows.laid_unicode_utf8_acceptRanges), ("strconv.ErrRange", Rows.laid_strconv_ErrRange), ("strconv.ErrSyntax", Rows.laid_strconv_ErrSyntax), ("unicode/utf8.first", Rows.laid_unicode_utf8_first)])
    10 (by kernel_rfl) (by kernel_rfl) (by kernel_rfl) ((World.doorLaid Tryz.prog 79 default).heap.size) (Tryz.lays159_ren.t 208) (of_decide_eq_true (by kernel_rfl)) (by kernel_rfl) (by kernel_rfl) (by kernel_rfl)
  have e : Rows.laid_unicode_CaseRanges = caseData := Pinned.caseRanges_eq
  rw [e]
  exact laidMet_swap (l := [("math/bits.deBruijn32tab", Rows.laid_math_bits_deBruijn32tab), ("math/bits.deBruijn64tab", Rows.laid_math_bits_deBruijn64tab), ("internal/strconv.uint64pow10", Rows.laid_internal_strconv_uint64pow10), ("unicode/utf8.acceptRanges", Rows.laid_unicode_utf8_acceptRanges), ("strconv.ErrRange", Rows.laid_strconv_ErrRange), ("strconv.ErrSyntax", Rows.laid_strconv_ErrSyntax)]) h
end Go.Proofs.YtfmpnakonffkcaaGreatDoor
