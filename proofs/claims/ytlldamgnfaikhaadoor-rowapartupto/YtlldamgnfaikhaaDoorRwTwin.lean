/- The walk of the law's 'twin'. -/
import Derived.Test.YtlldamgnfaikhaaDoorRwMem
namespace Go.Proofs.YtlldamgnfaikhaaDoor
open Go.RowKit Go.Sort

set_option maxHeartbeats 1000000 in
theorem twin_ (a : Option Addr) (c : Nat) (vs : List Val) (w : World) (h : ValsIn w a vs) (hn : vs.length * 40 ≤ 140737488355328) (hnil : a = none → c = 0) :
    Calls Tryd.prog 7 #[.slice a vs.length c] w fun e w' => ∃ a' c', e = .returned (.slice a' vs.length c') ∧ ValsIn w' a' vs ∧ (a' = none → c' = 0) ∧ Below w.heap.size w w' := by
  have HV := Lib.hid h
  cases a with
  | none =>
    have h0 : vs = [] := by
      refine Classical.byContradiction fun hne => ?_
      obtain ⟨_, _, e, _⟩ := h 0 (List.length_pos_iff.2 hne)
      cases e
    subst h0
    obtain rfl := hnil rfl
    clear h HV hn hnil
    go_enter Tryd.func7, Tryd.ntmps7
    go_wp2
    go_ret
    exact ⟨none, 0, rfl, valsIn_nil _ _, fun _ => rfl, Below.refl _ _⟩
  | some ad =>
    obtain ⟨b, o, m⟩ := ad
    clear hnil
    obtain ⟨i0, hi, hz0, hz1, hz2⟩ := info_parts infoV
    have hlen := valCells_len vs
    have HN : Hid (∀ j u, (valCells vs)[j]? = some u → w.cell? ((⟨b, o, m⟩ : Addr).add j) = some u) := by
      by_cases h0 : vs = []
      · subst h0; intro j u hj; simp [valCells] at hj
      · obtain ⟨b', o', e, _⟩ := h 0 (List.length_pos_iff.2 h0)
        simp only [Option.some.injEq, Addr.mk.injEq] at e
        obtain ⟨rfl, rfl, rfl⟩ := e
        exact valNews h
    clear h
    go_enter Tryd.func7, Tryd.ntmps7
    go_wp2_with (first
      | (at_builtin; refine wpList_append_own _ rfl _ _ 25 rfl w.heap.size 47 i0 (.agg #[.int .i64 0, .int .i64 0, .string ⟨#[]⟩, .bool false]) 4 40 Tryd.underlying25 hi hz0 hz1 hz2 rfl (by decide) _ _ _ rfl (World.ownsRow_nil _ _ _ _) ⟨b, o, m⟩ vs.length c (valCells vs) rfl hlen HN.out (valCells_one vs) (by unfold maxLen; omega) (by omega) (by simp) ?_)
      | go_in)
    intro v' w1 hown hgrow _
    have hown' : OwnV w1 w.heap.size v' vs := by
      exact hown
    obtain ⟨a', c', rfl, hin, hn'⟩ := hown'.vals
    have hb : Below w.heap.size w w1 := (Below.refl _ _).grown hgrow (by simp) (fun g hg => by simp [Value.ownBlock] at hg)
    have HI := Lib.hid hin
    have HN' := Lib.hid hn'
    clear hown hgrow hin hown' hn'
    go_wp2
    go_ret
    exact ⟨a', c', rfl, HI.out, HN'.out, hb⟩
end Go.Proofs.YtlldamgnfaikhaaDoor
