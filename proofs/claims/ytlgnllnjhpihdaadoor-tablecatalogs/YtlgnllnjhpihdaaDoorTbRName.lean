/- The walks of the document's Words, Reserved and Name. -/
import Derived.Test.YtlgnllnjhpihdaaDoorTbName2
namespace Go.Proofs.YtlgnllnjhpihdaaDoor
open Go.RowKit Go.Sort

/-- Texts behind a slice. -/
def TextsIn (w : World) (g : Nat) (ts : List (List UInt8)) : Prop := ∀ j (h : j < ts.length), w.cell? ⟨g, j, none⟩ = some (.string (ofL ts[j]))
theorem TextsIn.on {w w' : World} {g : Nat} {ts : List (List UInt8)} (h : TextsIn w g ts) (hb : Below w.heap.size w w') : TextsIn w' g ts := fun j hj => (hb.cell (block_lt_of_cell (h j hj))).trans (h j hj)
def Worded (w : World) (e : Ending) (w' : World) : Prop := ∃ g, e = .returned (.slice (some ⟨g, 0, none⟩) 39 39) ∧ TextsIn w' g words ∧ Below w.heap.size w w'
set_option maxHeartbeats 4000000 in
set_option maxRecDepth 100000 in
theorem words_ (w : World) : Calls Tryd.prog 34 #[] w (Worded w) := by
  go_enter Tryd.func34, Tryd.ntmps34
  go_wp2_with fail
  go_ret
  refine ⟨_, rfl, ?_, below_alloc1 _ _⟩
  intro j hj
  simp only [World.cell?_alloc_new]
  show ((words.map fun t => Value.string (ofL t)).toArray)[j]? = _
  simp [List.getElem?_eq_getElem hj]
set_option maxHeartbeats 1000000 in
theorem rreserved_ (s : ByteArray) (w : World) : Calls Tryd.prog 15 #[.string s] w fun e w' => e = .returned (.bool (resL (lst s))) ∧ Below w.heap.size w w' := by
  have HW := Lib.hid (words_ w)
  obtain ⟨R, hR⟩ : ∃ R, resL (lst s) = R := ⟨_, rfl⟩
  have HQ := Lib.hid hR
  rw [hR]
  clear hR
  go_enter Tryd.func15, Tryd.ntmps15
  go_wp2_with fail
  refine HW.out.mono ?_
  rintro e w1 ⟨g, rfl, ht, hb⟩
  have HT := Lib.hid ht
  have HB := Lib.hid hb
  clear ht hb HW
  go_wp2_with fail
  go_loopw [4] (fun iv wr => ∃ i : Nat, i ≤ 39 ∧ iv = .int .i64 i ∧ wr = w1 ∧ Hid (∀ j (h : j < words.length), j < i → words[j] ≠ lst s)) (fun iv _ => 39 - (intOf iv).toNat)
  case atStart => exact ⟨0, Nat.zero_le _, rfl, rfl, fun j _ hj => by omega⟩
  case round =>
    obtain ⟨i, hi, rfl, rfl, HV⟩ := hrel
    by_cases hlt : i < 39
    · have hlt2 : (i : Int) < 39 := by omega
      have hin : i < words.length := hlt
      have c0 := HT.out i hin
      by_cases he : words[i] = lst s
      · have he2 : ((ofL words[i]).toList == s.toList) = true := by rw [toList_lst, toList_lst, lst_ofL, he]; simp
        have HF : Hid (R = true) := by
          show _ = _
          rw [← HQ.out]; exact List.any_eq_true.2 ⟨words[i], List.getElem_mem _, by rw [he]; simp⟩
        clear HV he
        generalize ofL words[i] = x at *
        go_wp2_with fail
        go_ret
        exact ⟨by rw [HF.out]; rfl, HB.out⟩
      · have he2 : ((ofL words[i]).toList == s.toList) = false := by rw [toList_lst, toList_lst, lst_ofL]; simpa using he
        have HV2 : Hid (∀ j (h : j < words.length), j < i + 1 → words[j] ≠ lst s) := fun j hj hji => by
          rcases Nat.lt_or_ge j i with hh | hh
          · exact HV.out j hj hh
          · obtain rfl : j = i := by omega
            exact he
        clear HV he
        generalize ofL words[i] = x at *
        go_wp2_with fail
        go_roundw
        case rel => exact ⟨i + 1, by omega, by go_num, by trivial, HV2⟩
        case measure => simp [intOf]; omega
    · obtain rfl : i = 39 := by omega
      have HF : Hid (R = false) := by
        show _ = _
        rw [← HQ.out, resL, List.any_eq_false]
        intro x hx
        obtain ⟨j, hj, rfl⟩ := List.getElem_of_mem hx
        simpa using HV.out j hj hj
      clear HV
      go_wp2_with fail
      go_ret
      exact ⟨by rw [HF.out]; rfl, HB.out⟩
end Go.Proofs.YtlgnllnjhpihdaaDoor
