/- The walks of the document's own Below, Above, height. -/
import Derived.Test.YtoompephogamaaaDoorRef
namespace Go.Proofs.YtoompephogamaaaDoor
open Go.RowKit Go.Sort

set_option maxHeartbeats 1000000 in
theorem r2Below_ (va : Option Addr) (vc : Nat) (i : Int) (ls : List Lab) (w : World) (h : LabsIn w va ls) (hw : allW ls) (hn : ls.length ≤ 16) :
    Calls Tryd.prog 13 #[.slice va ls.length vc, .int .i64 i] w fun e w' => ∃ a c, e = .returned (.slice a (belowL ls i).length c) ∧ IntsIn w' a (belowL ls i) ∧ Below w.heap.size w w' := by
  obtain ⟨p, hp⟩ : ∃ p : Nat → Bool, p = fun j : Nat => domAt ls i j := ⟨_, rfl⟩
  have HB : Hid (belowL ls i = upTo p ls.length) := by unfold Hid; rw [hp]; rfl
  rw [HB.out]
  have HD : Hid (∀ (W : World) (k : Nat), LabsIn W va ls → Calls Tryd.prog 17 #[.slice va ls.length vc, .int .i64 i, .int .i64 k] W fun e w' => e = .returned (.bool (p k)) ∧ Below W.heap.size W w') := fun W k hL => by rw [hp]; exact r2Dom_ va vc i k ls W hL hw
  have HL : Hid (LabsIn w va ls) := h
  clear hp HB h hw
  obtain ⟨n, hnn⟩ : ∃ n, ls.length = n := ⟨_, rfl⟩
  rw [hnn] at HD
  rw [hnn] at hn ⊢
  clear hnn
  obtain ⟨i0, hi, hz0, hz1, hz2⟩ := info_parts info3
  go_enter Tryd.func13, Tryd.ntmps13
  go_wp2_with fail
  go_loopw [5, 6] (fun bv iv wr => ∃ k : Nat, k ≤ n ∧ iv = .int .i64 k ∧ wr.ownsRow w.heap.size 3 1 bv (upTo p k).length (ints (upTo p k)) ∧ Below w.heap.size w wr) (fun _ iv _ => n - (intOf iv).toNat)
  case atStart => exact ⟨0, Nat.zero_le _, rfl, World.ownsRow_nil _ _ _ _, Below.refl _ _⟩
  case round =>
    obtain ⟨k, hk, rfl, hown, hb⟩ := hrel
    have hul := upTo_len p k
    have HO := Lib.hid hown
    clear hown
    by_cases hlt : k < n
    · go_wp2_with fail
      refine (HD.out wr k (HL.out.on hb)).mono ?_
      rintro e w2 ⟨rfl, hb2⟩
      have hb3 : Below w.heap.size w w2 := hb.trans (hb2.mono hb.size)
      have HO2 := Lib.hid (owns_on HO.out hb2)
      cases hp : p k
      · go_wp2_with fail
        go_roundw
        case rel => exact ⟨k + 1, by omega, by go_num, by rw [upTo_no hp]; exact HO2.out, hb3⟩
        case measure => simp [intOf]; omega
      · have hsz := hb3.size
        go_wp2_with (first
          | (at_builtin; refine wpList_append_own _ rfl _ _ 30 rfl w.heap.size 3 i0 (.int .i64 0) 1 8 Tryd.underlying30 hi hz0 hz1 hz2 rfl (by decide) _ _ _ rfl (HO2.out.alloc _) ⟨w2.heap.size, 0, none⟩ 1 1 [.int .i64 k] rfl rfl (one_cell _ _ _) (one_one _) (by unfold maxLen; omega) (by omega) (by simp; omega) ?_)
          | go_in)
        intro v' w3 hown' hgrow _
        have hb4 : Below w.heap.size w w3 := (hb3.alloc hb3.size _).grown hgrow (by simp; omega) (fun g hg => (HO2.out.lt g hg).1)
        rw [ints_snoc, ← upTo_yes hp] at hown'
        have e1 : (upTo p (k + 1)).length = (upTo p k).length + 1 := by rw [upTo_yes hp]; simp
        rw [← e1] at hown'
        have HO3 := Lib.hid hown'
        clear hown' hgrow e1
        go_wp2
        go_roundw
        case rel => exact ⟨k + 1, by omega, by go_num, HO3.out, hb4⟩
        case measure => simp [intOf]; omega
    · obtain rfl : k = n := by omega
      go_wp2_with fail
      go_ret
      obtain ⟨a, c, rfl, hin⟩ := intsIn_of HO.out
      exact ⟨a, c, rfl, hin, hb⟩

set_option maxHeartbeats 1000000 in
theorem r2Above_ (va : Option Addr) (vc : Nat) (i : Int) (ls : List Lab) (w : World) (h : LabsIn w va ls) (hw : allW ls) (hn : ls.length ≤ 16) :
    Calls Tryd.prog 15 #[.slice va ls.length vc, .int .i64 i] w fun e w' => ∃ a c, e = .returned (.slice a (aboveL ls i).length c) ∧ IntsIn w' a (aboveL ls i) ∧ Below w.heap.size w w' := by
  obtain ⟨p, hp⟩ : ∃ p : Nat → Bool, p = fun j : Nat => domAt ls j i := ⟨_, rfl⟩
  have HB : Hid (aboveL ls i = upTo p ls.length) := by unfold Hid; rw [hp]; rfl
  rw [HB.out]
  have HD : Hid (∀ (W : World) (k : Nat), LabsIn W va ls → Calls Tryd.prog 17 #[.slice va ls.length vc, .int .i64 k, .int .i64 i] W fun e w' => e = .returned (.bool (p k)) ∧ Below W.heap.size W w') := fun W k hL => by rw [hp]; exact r2Dom_ va vc k i ls W hL hw
  have HL : Hid (LabsIn w va ls) := h
  clear hp HB h hw
  obtain ⟨n, hnn⟩ : ∃ n, ls.length = n := ⟨_, rfl⟩
  rw [hnn] at HD
  rw [hnn] at hn ⊢
  clear hnn
  obtain ⟨i0, hi, hz0, hz1, hz2⟩ := info_parts info3
  go_enter Tryd.func15, Tryd.ntmps15
  go_wp2_with fail
  go_loopw [5, 6] (fun bv iv wr => ∃ k : Nat, k ≤ n ∧ iv = .int .i64 k ∧ wr.ownsRow w.heap.size 3 1 bv (upTo p k).length (ints (upTo p k)) ∧ Below w.heap.size w wr) (fun _ iv _ => n - (intOf iv).toNat)
  case atStart => exact ⟨0, Nat.zero_le _, rfl, World.ownsRow_nil _ _ _ _, Below.refl _ _⟩
  case round =>
    obtain ⟨k, hk, rfl, hown, hb⟩ := hrel
    have hul := upTo_len p k
    have HO := Lib.hid hown
    clear hown
    by_cases hlt : k < n
    · go_wp2_with fail
      refine (HD.out wr k (HL.out.on hb)).mono ?_
      rintro e w2 ⟨rfl, hb2⟩
      have hb3 : Below w.heap.size w w2 := hb.trans (hb2.mono hb.size)
      have HO2 := Lib.hid (owns_on HO.out hb2)
      cases hp : p k
      · go_wp2_with fail
        go_roundw
        case rel => exact ⟨k + 1, by omega, by go_num, by rw [upTo_no hp]; exact HO2.out, hb3⟩
        case measure => simp [intOf]; omega
      · have hsz := hb3.size
        go_wp2_with (first
          | (at_builtin; refine wpList_append_own _ rfl _ _ 30 rfl w.heap.size 3 i0 (.int .i64 0) 1 8 Tryd.underlying30 hi hz0 hz1 hz2 rfl (by decide) _ _ _ rfl (HO2.out.alloc _) ⟨w2.heap.size, 0, none⟩ 1 1 [.int .i64 k] rfl rfl (one_cell _ _ _) (one_one _) (by unfold maxLen; omega) (by omega) (by simp; omega) ?_)
          | go_in)
        intro v' w3 hown' hgrow _
        have hb4 : Below w.heap.size w w3 := (hb3.alloc hb3.size _).grown hgrow (by simp; omega) (fun g hg => (HO2.out.lt g hg).1)
        rw [ints_snoc, ← upTo_yes hp] at hown'
        have e1 : (upTo p (k + 1)).length = (upTo p k).length + 1 := by rw [upTo_yes hp]; simp
        rw [← e1] at hown'
        have HO3 := Lib.hid hown'
        clear hown' hgrow e1
        go_wp2
        go_roundw
        case rel => exact ⟨k + 1, by omega, by go_num, HO3.out, hb4⟩
        case measure => simp [intOf]; omega
    · obtain rfl : k = n := by omega
      go_wp2_with fail
      go_ret
      obtain ⟨a, c, rfl, hin⟩ := intsIn_of HO.out
      exact ⟨a, c, rfl, hin, hb⟩
end Go.Proofs.YtoompephogamaaaDoor
