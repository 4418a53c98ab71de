/- The walks of the law's 'sure' and 'twin'. -/
import Derived.Test.YtonbecjankghaaaDoorOEnc
namespace Go.Proofs.YtonbecjankghaaaDoor
open Go.RowKit Go.Sort

def sureL : List Val := [⟨2, 0, ⟨#[97]⟩, false⟩, ⟨3, 0, ⟨#[]⟩, true⟩]
theorem sure_err : errL sureL = 0 := by decide
theorem sure_txt : txtL sureL = [3, 97, 0, 4, 1] := by decide
theorem sure_in (w : World) : ValsIn (w.alloc (.cells #[.int .i64 2, .int .i64 0, .string ⟨#[97]⟩, .bool false, .int .i64 3, .int .i64 0, .string ⟨#[]⟩, .bool true] 41)) (some ⟨w.heap.size, 0, none⟩) sureL := by
  obtain ⟨h1, h2⟩ := in8_new w 2 0 ⟨#[97]⟩ false 3 0 ⟨#[]⟩ true 41
  intro i hi
  have hi2 : i < 2 := hi
  rcases (by omega : i = 0 ∨ i = 1) with rfl | rfl
  · exact ⟨_, 0, rfl, h1⟩
  · exact ⟨_, 0, rfl, h2⟩
set_option maxHeartbeats 1000000 in
theorem sure_ (w : World) : Calls Tryd.prog 13 #[] w fun e w' => e = .returned (.bool true) ∧ Below w.heap.size w w' := by
  have HE : Hid (∀ W, ValsIn W (some ⟨w.heap.size, 0, none⟩) sureL → Calls Tryd.prog 4 #[.slice (some ⟨w.heap.size, 0, none⟩) 2 2] W fun e w' => e = .returned (.tuple #[.string ⟨#[3, 97, 0, 4, 1]⟩, .nilIface]) ∧ Below W.heap.size W w') := fun W hW => by
    have := encode_ (some ⟨w.heap.size, 0, none⟩) 2 sureL W hW (fun x hx => by
      simp only [sureL, List.mem_cons, List.not_mem_nil, or_false] at hx
      rcases hx with rfl | rfl
      · exact inI_zero
      · exact inI_zero) (by decide)
    rw [sure_err, sure_txt] at this
    exact this
  have HI := Lib.hid (sure_in w)
  have HB : Hid (Below w.heap.size w (w.alloc (.cells #[.int .i64 2, .int .i64 0, .string ⟨#[97]⟩, .bool false, .int .i64 3, .int .i64 0, .string ⟨#[]⟩, .bool true] 41))) := (Below.refl _ _).alloc (Nat.le_refl _) _
  go_enter Tryd.func13, Tryd.ntmps13
  go_wp2_with fail
  refine (HE.out _ HI.out).mono ?_
  rintro e w1 ⟨rfl, hb1⟩
  have HB1 := Lib.hid (below_step HB.out hb1)
  clear HB hb1 HI HE
  go_wp2_with fail
  go_ret
  exact ⟨rfl, HB1.out⟩
set_option maxHeartbeats 1000000 in
theorem twin_ (a : Option Addr) (c : Nat) (vs : List Val) (w : World) (h : ValsIn w a vs) (hn : vs.length * 40 ≤ 140737488355328) (hnil : a = none → c = 0) :
    Calls Tryd.prog 5 #[.slice a vs.length c] w fun e w' => ∃ a' c', e = .returned (.slice a' vs.length c') ∧ ValsIn w' a' vs ∧ (a' = none → c' = 0) ∧ Below w.heap.size w w' := by
  have HV := Lib.hid h
  cases a with
  | none =>
    have h0 : vs = [] := by
      refine Classical.byContradiction fun hne => ?_
      obtain ⟨_, _, e, _⟩ := h 0 (List.length_pos_iff.2 hne)
      cases e
    subst h0
    obtain rfl := hnil rfl
    clear h HV hn hnil
    go_enter Tryd.func5, Tryd.ntmps5
    go_wp2
    go_ret
    exact ⟨none, 0, rfl, valsIn_nil _ _, fun _ => rfl, Below.refl _ _⟩
  | some ad =>
    obtain ⟨b, o, m⟩ := ad
    clear hnil
    obtain ⟨i0, hi, hz0, hz1, hz2⟩ := info_parts infoV
    have hlen := valCells_len vs
    have HN : Hid (∀ j u, (valCells vs)[j]? = some u → w.cell? ((⟨b, o, m⟩ : Addr).add j) = some u) := by
      by_cases h0 : vs = []
      · subst h0; intro j u hj; simp [valCells] at hj
      · obtain ⟨b', o', e, _⟩ := h 0 (List.length_pos_iff.2 h0)
        simp only [Option.some.injEq, Addr.mk.injEq] at e
        obtain ⟨rfl, rfl, rfl⟩ := e
        exact valNews h
    clear h
    go_enter Tryd.func5, Tryd.ntmps5
    go_wp2_with (first
      | (at_builtin; refine wpList_append_own _ rfl _ _ 22 rfl w.heap.size 41 i0 (.agg #[.int .i64 0, .int .i64 0, .string ⟨#[]⟩, .bool false]) 4 40 Tryd.underlying22 hi hz0 hz1 hz2 rfl (by decide) _ _ _ rfl (World.ownsRow_nil _ _ _ _) ⟨b, o, m⟩ vs.length c (valCells vs) rfl hlen HN.out (valCells_one vs) (by unfold maxLen; omega) (by omega) (by simp) ?_)
      | go_in)
    intro v' w1 hown hgrow _
    have hown' : OwnV w1 w.heap.size v' vs := by
      exact hown
    obtain ⟨a', c', rfl, hin, hn'⟩ := hown'.vals
    have hb : Below w.heap.size w w1 := (Below.refl _ _).grown hgrow (by simp) (fun g hg => by simp [Value.ownBlock] at hg)
    have HI := Lib.hid hin
    have HN' := Lib.hid hn'
    clear hown hgrow hin hown' hn'
    go_wp2
    go_ret
    exact ⟨a', c', rfl, HI.out, HN'.out, hb⟩
end Go.Proofs.YtonbecjankghaaaDoor
