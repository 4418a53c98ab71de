/- The calls of a lattice that collect places: Below, Above. -/
import Derived.Test.YtoompephogamaaaGreatDoorDom
import Derived.OwnWalk
import Derived.Lib.Hide
namespace Go.Proofs.YtoompephogamaaaGreatDoor
open Go.RowKit Go.Sort

def ints (zs : List Nat) : List Value := zs.map fun n : Nat => Value.int .i64 (n : Int)
theorem ints_snoc (zs : List Nat) (k : Nat) : ints zs ++ [.int .i64 (k : Int)] = ints (zs ++ [k]) := by simp [ints]
theorem grown_of_below {w w' : World} (h : Below w.heap.size w w') : w.grownBy w' none := ⟨h.os, h.tape, h.output, h.size, fun i hi _ => h.block i hi⟩
theorem owns_on {w w' : World} {base n size : Nat} {e : TypeId} {v : Value} {xs : List Value} (h : w.ownsRow base e size v n xs) (hb : Below w.heap.size w w') : w'.ownsRow base e size v n xs :=
  h.kept (grown_of_below hb) (by cases hv : v.ownBlock <;> simp)
theorem intsIn_of {w : World} {base : Nat} {v : Value} {zs : List Nat} (h : w.ownsRow base 3 1 v zs.length (ints zs)) : ∃ a c, v = .slice a zs.length c ∧ IntsIn w a zs := by
  rcases h.2 with ⟨rfl, h0⟩ | ⟨g, cap, cur, rfl, hb, hg, h1, h2, h3, h4⟩
  · refine ⟨none, 0, by rw [h0], fun i hi => by omega⟩
  · refine ⟨_, cap, rfl, fun i hi => ⟨g, 0, rfl, ?_⟩⟩
    have := h.cells (g := g) rfl i (.int .i64 (zs.getD i 0 : Nat)) (by
      simp only [ints, List.getElem?_map, List.getElem?_eq_getElem hi, Option.map_some, List.getD_eq_getElem?_getD, Option.getD_some])
    rw [Addr.add_lit] at this
    exact this
theorem one_cell (w : World) (x : Value) (t : TypeId) : ∀ j u, [x][j]? = some u → (w.alloc (.cells #[x] t)).cell? ((⟨w.heap.size, 0, none⟩ : Addr).add j) = some u := by
  intro j u hj
  match j, hj with
  | 0, hj => simp at hj; subst hj; simp [Addr.add]
theorem one_one (k : Int) : ∀ u ∈ [Value.int .i64 k], u.oneCell' = true := by
  intro u hu; simp at hu; subst hu; rfl
theorem info3 : (Tryz.prog.info? 3).map (fun i => (i.zero, i.size, i.bytes)) = some (some (.int .i64 0), 1, 8) := by kernel_rfl

set_option maxHeartbeats 1000000 in
theorem below_ (v : Value) (i : Int) (ls : List Lab) (w : World) (h : LatIn w v ls) (hw : allW ls) (hn : ls.length ≤ 16) :
    Calls Tryz.prog 60 #[v, .int .i64 i] w fun e w' => ∃ a c, e = .returned (.slice a (belowL ls i).length c) ∧ IntsIn w' a (belowL ls i) ∧ Below w.heap.size w w' := by
  obtain ⟨p, hp⟩ : ∃ p : Nat → Bool, p = fun j : Nat => domAt ls i j := ⟨_, rfl⟩
  have HB : Hid (belowL ls i = upTo p ls.length) := by unfold Hid; rw [hp]; rfl
  rw [HB.out]
  have HD : Hid (∀ (W : World) (k : Nat), LatIn W v ls → Calls Tryz.prog 73 #[v, .int .i64 i, .int .i64 k] W fun e w' => e = .returned (.bool (p k)) ∧ Below W.heap.size W w') := fun W k hL => by rw [hp]; exact dom_ v i k ls W hL hw
  have HL : Hid (LatIn w v ls) := h
  clear hp HB h hw
  obtain ⟨n, hnn⟩ : ∃ n, ls.length = n := ⟨_, rfl⟩
  have HN : Hid (∀ W, LatIn W v ls → Calls Tryz.prog 13 #[v] W fun e w' => e = .returned (.int .i64 n) ∧ w' = W) := fun W hL => hnn ▸ len_ v ls W hL
  rw [hnn] at hn ⊢
  clear hnn
  obtain ⟨i0, hi, hz0, hz1, hz2⟩ := info_parts info3
  go_enter Tryz.func60, Tryz.ntmps60
  go_wp2_with fail
  refine (HN.out _ HL.out).mono ?_
  rintro e w1 ⟨rfl, rfl⟩
  go_wp2_with fail
  go_loopw [5, 9] (fun bv iv wr => ∃ k : Nat, k ≤ n ∧ iv = .int .i64 k ∧ wr.ownsRow w1.heap.size 3 1 bv (upTo p k).length (ints (upTo p k)) ∧ Below w1.heap.size w1 wr) (fun _ iv _ => n - (intOf iv).toNat)
  case atStart => exact ⟨0, Nat.zero_le _, rfl, World.ownsRow_nil _ _ _ _, Below.refl _ _⟩
  case round =>
    obtain ⟨k, hk, rfl, hown, hb⟩ := hrel
    have hul := upTo_len p k
    have HO := Lib.hid hown
    clear hown
    by_cases hlt : k < n
    · go_wp2_with fail
      refine (HD.out wr k (HL.out.on hb)).mono ?_
      rintro e w2 ⟨rfl, hb2⟩
      have hb3 : Below w1.heap.size w1 w2 := hb.trans (hb2.mono hb.size)
      have HO2 := Lib.hid (owns_on HO.out hb2)
      cases hp : p k
      · go_wp2_with fail
        go_roundw
        case rel => exact ⟨k + 1, by omega, by go_num, by rw [upTo_no hp]; exact HO2.out, hb3⟩
        case measure => simp [intOf]; omega
      · have hsz := hb3.size
        go_wp2_with (first
          | (at_builtin; refine wpList_append_own _ rfl _ _ 59 rfl w1.heap.size 3 i0 (.int .i64 0) 1 8 Tryz.underlying59 hi hz0 hz1 hz2 rfl (by decide) _ _ _ rfl (HO2.out.alloc _) ⟨w2.heap.size, 0, none⟩ 1 1 [.int .i64 k] rfl rfl (one_cell _ _ _) (one_one _) (by unfold maxLen; omega) (by omega) (by simp; omega) ?_)
          | go_in)
        intro v' w3 hown' hgrow _
        have hb4 : Below w1.heap.size w1 w3 := (hb3.alloc hb3.size _).grown hgrow (by simp; omega) (fun g hg => (HO2.out.lt g hg).1)
        rw [ints_snoc, ← upTo_yes hp] at hown'
        have e1 : (upTo p (k + 1)).length = (upTo p k).length + 1 := by rw [upTo_yes hp]; simp
        rw [← e1] at hown'
        have HO3 := Lib.hid hown'
        clear hown' hgrow e1
        go_wp2
        go_roundw
        case rel => exact ⟨k + 1, by omega, by go_num, HO3.out, hb4⟩
        case measure => simp [intOf]; omega
    · obtain rfl : k = n := by omega
      go_wp2_with fail
      go_ret
      obtain ⟨a, c, rfl, hin⟩ := intsIn_of HO.out
      exact ⟨a, c, rfl, hin, hb⟩
end Go.Proofs.YtoompephogamaaaGreatDoor
