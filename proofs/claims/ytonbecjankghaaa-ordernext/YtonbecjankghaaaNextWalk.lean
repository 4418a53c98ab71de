/- The walk of the law OrderNext. -/
import Derived.Test.YtonbecjankghaaaOSure
import Derived.Test.YtonbecjankghaaaONx
namespace Go.Proofs.Ytonbecjankghaaa
open Go.RowKit Go.Sort

set_option maxHeartbeats 1000000 in
theorem law_none (s b o : ByteArray) (w : World) (hs : s.size ≤ 140737488351232) (hf : full s.data.toList) :
    Calls Try.prog 5 #[.string s, .string b, .string o] w fun e w' => e = .returned (.bool true) ∧ Below w.heap.size w w' := by
  have HN : Hid (∀ W, Calls Try.prog 14 #[.string s] W fun e w' => e = .returned (.tuple #[.string ⟨#[]⟩, .bool false]) ∧ Below W.heap.size W w') := fun W => by
    have := next_ s W (by omega)
    rw [nxt_full hf] at this
    exact this
  have HS : Hid (∀ W, Calls Try.prog 9 #[] W fun e w' => e = .returned (.bool true) ∧ Below W.heap.size W w') := fun W => sure_ W
  have HF := Lib.hid hf
  clear hf
  go_enter Try.func5, Try.ntmps5
  go_wp2_with fail
  refine (HN.out _).mono ?_
  rintro e w1 ⟨rfl, hb1⟩
  have HB1 := Lib.hid hb1
  clear hb1 HN
  go_wp2_with fail
  go_loopw [9] (fun iv wr => ∃ i : Nat, i ≤ s.size ∧ iv = .int .i64 i ∧ wr = w1) (fun iv _ => s.size - (intOf iv).toNat)
  case atStart => exact ⟨0, Nat.zero_le _, rfl, rfl⟩
  case round =>
    obtain ⟨i, hi, rfl, rfl⟩ := hrel
    by_cases hlt : i < s.size
    · have hlt2 : (i : Int) < (s.size : Int) := by omega
      have hq : s[i].toNat = 255 := HF.out s[i] (by show s.data[i] ∈ _; simp)
      have hq2 : (((s[i].toNat : Nat) : Int) != 255) = false := by rw [hq]; rfl
      go_wp2_with fail
      go_roundw
      case rel => exact ⟨i + 1, by omega, by go_num, trivial⟩
      case measure => simp [intOf]; omega
    · obtain rfl : i = s.size := by omega
      go_wp2_with fail
      refine (HS.out _).mono ?_
      rintro e w2 ⟨rfl, hb2⟩
      have HB2 := Lib.hid (below_step HB1.out hb2)
      clear hb2
      go_wp2_with fail
      go_ret
      exact ⟨rfl, HB2.out⟩
set_option maxHeartbeats 1000000 in
theorem law_some (s b o : ByteArray) (w : World) (hs : s.size ≤ 140737488351232) (hb : b.size ≤ 140737488351232) (t : List UInt8) (ht : nxt s.data.toList = some t) :
    Calls Try.prog 5 #[.string s, .string b, .string o] w fun e w' => e = .returned (.bool true) ∧ Below w.heap.size w w' := by
  have HN : Hid (∀ W, Calls Try.prog 14 #[.string s] W fun e w' => e = .returned (.tuple #[.string ⟨t.toArray⟩, .bool true]) ∧ Below W.heap.size W w') := fun W => by
    have := next_ s W (by omega)
    unfold nxtV at this
    rw [ht] at this
    exact this
  have HS : Hid (∀ W, Calls Try.prog 9 #[] W fun e w' => e = .returned (.bool true) ∧ Below W.heap.size W w') := fun W => sure_ W
  have h1 : Op.bytesLess (s ++ b).toList (⟨t.toArray⟩ : ByteArray).toList = true := by
    rw [Lib.toList_data, Lib.toList_data, ba_append]
    exact nxt_above ht _
  have HX := Lib.hid ht
  obtain ⟨T, hT⟩ : ∃ T : ByteArray, T = ⟨t.toArray⟩ := ⟨_, rfl⟩
  have HT := Lib.hid hT
  rw [← hT] at HN h1
  clear ht hT
  go_enter Try.func5, Try.ntmps5
  go_wp2_with fail
  refine (HN.out _).mono ?_
  rintro e w1 ⟨rfl, hb1⟩
  have HB1 := Lib.hid hb1
  clear hb1 HN
  by_cases c1 : Op.bytesLess o.toList s.toList = true
  · go_wp2_with fail
    refine (HS.out _).mono ?_
    rintro e w2 ⟨rfl, hb2⟩
    have HB2 := Lib.hid (below_step HB1.out hb2)
    clear hb2
    go_wp2_with fail
    go_ret
    exact ⟨rfl, HB2.out⟩
  · have c1' : Op.bytesLess o.toList s.toList = false := by simpa using c1
    by_cases c2 : Op.bytesLess o.toList T.toList = true
    · have hp : s.data.toList <+: o.data.toList := by
        refine nxt_between HX.out (by rw [← Lib.toList_data, ← Lib.toList_data]; exact c1') ?_
        rw [HT.out, Lib.toList_data, Lib.toList_data] at c2
        exact c2
      have hl : s.size ≤ o.size := by rw [size_list, size_list]; exact hp.length_le
      have he : o.extract 0 s.size = s := by
        apply ba_ext
        rw [ext_list, size_list]
        exact (List.prefix_iff_eq_take.1 hp).symm
      have hl2 : ¬ (o.size : Int) < (s.size : Int) := by omega
      have hl3 : (s.size : Int) ≤ (o.size : Int) := by omega
      clear hp
      go_wp2_with fail
      refine (HS.out _).mono ?_
      rintro e w2 ⟨rfl, hb2⟩
      have HB2 := Lib.hid (below_step HB1.out hb2)
      clear hb2
      go_wp2_with fail
      go_ret
      exact ⟨rfl, HB2.out⟩
    · have c2' : Op.bytesLess o.toList T.toList = false := by simpa using c2
      clear c1 c2
      go_wp2_with fail
      refine (HS.out _).mono ?_
      rintro e w2 ⟨rfl, hb2⟩
      have HB2 := Lib.hid (below_step HB1.out hb2)
      clear hb2
      go_wp2_with fail
      go_ret
      exact ⟨rfl, HB2.out⟩
/-- What OrderNext says. -/
theorem law_next (s b o : ByteArray) (w : World) (hs : s.size ≤ 140737488351232) (hb : b.size ≤ 140737488351232) :
    Calls Try.prog 5 #[.string s, .string b, .string o] w fun e w' => e = .returned (.bool true) ∧ Below w.heap.size w w' := by
  cases h : nxt s.data.toList with
  | none => exact law_none s b o w hs ((nxt_none _).1 h)
  | some t => exact law_some s b o w hs hb t h
end Go.Proofs.Ytonbecjankghaaa
