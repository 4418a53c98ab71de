/- The walks of rests, next and Order. -/
import Derived.Test.YtoompephogamaaaGreatDoorOwn
import Derived.Test.YtoompephogamaaaGreatDoorShelf
namespace Go.Proofs.YtoompephogamaaaGreatDoor
open Go.RowKit Go.Sort

theorem contains_ (a : Option Addr) (c : Nat) (os : List Nat) (x : Nat) (w : World) (h : IntsIn w a os) (hn : os.length ≤ 16) :
    Calls Tryz.prog 48 #[.slice a os.length c, .int .i64 x] w fun e w' => e = .returned (.bool (os.contains x)) ∧ w' = w := by
  by_cases h0 : os = []
  · subst h0
    exact Tryz.slices_Contains_empty (α := Int) a c (.int .i64 x) w
  · have hp : 0 < os.length := List.length_pos_iff.2 h0
    obtain ⟨b, o, rfl, _⟩ := h 0 hp
    have hc := Tryz.slices_Contains (Value.int .i64) (fun x y => x == y) (EqlAt.int Tryz.prog 3 .i64) b o os.length c (os.map fun n : Nat => (n : Int)) (x : Int) w (by simp) (by omega) (fun j hj => by
      rw [List.length_map] at hj
      obtain ⟨b', o', e, hh⟩ := h j hj
      simp only [Option.some.injEq, Addr.mk.injEq] at e
      obtain ⟨rfl, rfl, _⟩ := e
      rw [hh]
      simp [hj])
    refine hc.mono fun e w' ⟨he, hw⟩ => ⟨?_, hw⟩
    rw [he]
    refine ret_bool ?_
    rw [List.take_of_length_le (by simp), List.any_map]
    rw [Bool.eq_iff_iff, List.any_eq_true, List.contains_iff_mem]
    constructor
    · rintro ⟨y, hy, e⟩
      simp only [Function.comp_apply, beq_iff_eq] at e
      have : x = y := by omega
      exact this ▸ hy
    · intro hx
      exact ⟨x, hx, by simp⟩

set_option maxHeartbeats 1000000 in
theorem rests_ (v : Value) (i : Nat) (a : Option Addr) (c : Nat) (ls : List Lab) (os : List Nat) (w : World) (h : LatIn w v ls) (hw : allW ls) (hn : ls.length ≤ 16) (hI : IntsIn w a os) (ho : os.length ≤ 16) :
    Calls Tryz.prog 49 #[v, .int .i64 i, .slice a os.length c] w fun e w' => e = .returned (.bool (restsB ls os i)) ∧ Below w.heap.size w w' := by
  have HB : Hid (Calls Tryz.prog 60 #[v, .int .i64 i] w fun e w' => ∃ a c, e = .returned (.slice a (belowL ls i).length c) ∧ IntsIn w' a (belowL ls i) ∧ Below w.heap.size w w') := below_ v i ls w h hw hn
  have hlen := below_len ls i
  have HR : Hid (restsB ls os i = (belowL ls i).all fun j => j == i || os.contains j) := rfl
  generalize restsB ls os i = R at *
  generalize belowL ls i = zs at *
  have HC : Hid (∀ (W : World) (x : Nat), IntsIn W a os → Calls Tryz.prog 48 #[.slice a os.length c, .int .i64 x] W fun e w' => e = .returned (.bool (os.contains x)) ∧ w' = W) := fun W x hh => contains_ a c os x W hh ho
  have HI := Lib.hid hI
  generalize os.length = m at *
  clear h hw hI
  go_enter Tryz.func49, Tryz.ntmps49
  go_wp2_with fail
  refine HB.out.mono ?_
  rintro e w1 ⟨a1, c1, rfl, hin, hb⟩
  have HZ := Lib.hid hin
  have HJ := Lib.hid (HI.out.on hb)
  clear hin HI HB
  go_wp2_with fail
  go_loop [13] (fun iv => ∃ k : Nat, k ≤ zs.length ∧ iv = .int .i64 k ∧ ∀ j, j < k → (zs.getD j 0 == i || os.contains (zs.getD j 0)) = true) (fun iv => zs.length - (intOf iv).toNat)
  case atStart => exact ⟨0, Nat.zero_le _, rfl, fun j hj => by omega⟩
  case round =>
    obtain ⟨k, hk, rfl, hall⟩ := hrel
    have HA := Lib.hid hall
    clear hall
    by_cases hlt : k < zs.length
    · obtain ⟨b, o, rfl, hcell⟩ := HZ.out k hlt
      obtain ⟨z, hz⟩ : ∃ z, z = zs.getD k 0 := ⟨_, rfl⟩
      rw [← hz] at hcell
      have HT := Lib.hid hz
      clear hz
      by_cases hzi : z = i
      · subst hzi
        go_wp2_with fail
        refine ⟨⟨k + 1, by omega, by go_num, fun j hj => ?_⟩, by simp [intOf]; omega⟩
        by_cases e : j = k
        · subst e; rw [← HT.out]; simp
        · exact HA.out j (by omega)
      · have hzi' : ¬ (z : Int) = (i : Int) := by omega
        go_wp2_with fail
        refine (HC.out _ z HJ.out).mono ?_
        rintro e w2 ⟨rfl, rfl⟩
        cases hct : os.contains z
        · have HF : Hid ((zs.all fun j => j == i || os.contains j) = false) := by
            unfold Hid
            rw [List.all_eq_false]
            refine ⟨z, ?_, by simp only [hct, Bool.or_false, beq_iff_eq]; exact hzi⟩
            rw [HT.out, List.getD_eq_getElem?_getD, List.getElem?_eq_getElem hlt]
            exact List.getElem_mem hlt
          go_wp2_with fail
          go_ret
          exact ⟨ret_bool (HR.out.trans HF.out).symm, hb⟩
        · have HCT := Lib.hid hct
          clear hct
          go_wp2_with fail
          refine ⟨⟨k + 1, by omega, by go_num, fun j hj => ?_⟩, by simp [intOf]; omega⟩
          by_cases e : j = k
          · subst e; rw [← HT.out, HCT.out]; simp
          · exact HA.out j (by omega)
    · obtain rfl : k = zs.length := by omega
      have HF : Hid ((zs.all fun j => j == i || os.contains j) = true) := by
        unfold Hid
        rw [List.all_eq_true]
        intro x hx
        obtain ⟨j, hj, rfl⟩ := List.mem_iff_getElem.1 hx
        have := HA.out j hj
        rw [List.getD_eq_getElem?_getD, List.getElem?_eq_getElem hj] at this
        exact this
      go_wp2_with fail
      go_ret
      exact ⟨ret_bool (HR.out.trans HF.out).symm, hb⟩
end Go.Proofs.YtoompephogamaaaGreatDoor
