/- The walks of label.Text, strings.Cut at a colon, label.Parse, and the law's 'sure'. -/
import Derived.Test.YtoompephogamaaaGreatDoorW3
import Derived.Lib.Hide
import Derived.BigQuiet
namespace Go.Proofs.YtoompephogamaaaGreatDoor
open Go.RowKit Go.Sort

theorem box1 {w wr : World} {A B : Value} (hb : Below (w.heap.size + 1) (w.alloc (.cells #[A, B] 25)) wr) :
    wr.cell? ⟨w.heap.size, 0, none⟩ = some A ∧ wr.cell? ⟨w.heap.size, 1, none⟩ = some B ∧ w.heap.size + 1 ≤ wr.heap.size := by
  refine ⟨?_, ?_, by have := hb.size; simpa using this⟩
  all_goals (rw [hb.cell (by simp)]; simp [go_sem])

theorem str_three (D L : List UInt8) : ((⟨D.toArray⟩ : ByteArray) ++ ((⟨#[58]⟩ : ByteArray) ++ (⟨L.toArray⟩ : ByteArray))) = ⟨(D ++ 58 :: L).toArray⟩ := by
  apply ByteArray.ext
  simp

set_option maxHeartbeats 400000 in
theorem text7_no (r : Int) (c : Nat) (w : World) (hc : c < 4294967296) (h : okL r c = false) :
    Calls Tryz.prog 25 #[.agg #[.int .i64 r, .int .u32 c]] w fun e w' => e = .returned (.tuple #[.string ⟨#[]⟩, .iface 49 (.int .i64 20)]) ∧ Below w.heap.size w w' := by
  have hb0 : Below w.heap.size w (w.alloc (Obj.cells #[Value.int IntKind.i64 r, Value.int IntKind.u32 ↑c] 25)) := (Below.refl _ _).alloc (Nat.le_refl _) _
  go_enter Tryz.func25, Tryz.ntmps25
  go_wp2_with fail
  refine (valid12_no _ _ _ hc h).mono ?_
  rintro e w1 ⟨rfl, hb1⟩
  have hbw := hb0.trans (hb1.mono hb0.size)
  go_wp2_with fail
  go_ret2
  exact ⟨rfl, hbw⟩
set_option maxHeartbeats 400000 in
theorem text7_yes (r : Int) (c : Nat) (w : World) (h : okL r c = true) :
    Calls Tryz.prog 25 #[.agg #[.int .i64 r, .int .u32 c]] w fun e w' => e = .returned (.tuple #[.string ⟨(textOf r c).toArray⟩, .nilIface]) ∧ Below w.heap.size w w' := by
  obtain ⟨h0, h1, h2⟩ := okL_iff.1 h
  obtain ⟨n, rfl⟩ := Int.eq_ofNat_of_zero_le h0
  have hc : c < 4294967296 := by omega
  have hb0 : Below w.heap.size w (w.alloc (Obj.cells #[Value.int IntKind.i64 (n : Int), Value.int IntKind.u32 ↑c] 25)) := (Below.refl _ _).alloc (Nat.le_refl _) _
  have hd := (digits_small n h0 h1).2.2
  rw [Int.toNat_natCast] at hd
  have HO : Hid (okL n c = true) := h
  clear h
  by_cases e : c = 0
  · have HT : Hid (textOf n c = Lib.decDigits n) := by unfold Hid textOf; rw [if_pos e]; simp
    subst e
    go_enter Tryz.func25, Tryz.ntmps25
    go_wp2_with fail
    refine (valid12_yes _ _ _ HO.out).mono ?_
    rintro e w1 ⟨rfl, hb1⟩
    obtain ⟨x0, x1, hz⟩ := box1 (hb1.mono (B' := w.heap.size + 1) (by simp))
    have hbw := hb0.trans (hb1.mono hb0.size)
    go_wp2_with fail
    refine (Tryz.strconv_Itoa_small n (by omega) _).mono ?_
    rintro e w2 ⟨rfl, rfl⟩
    go_wp2_with fail
    go_ret2
    exact ⟨by rw [HT.out]; rfl, hbw⟩
  · obtain ⟨L, hL⟩ : ∃ L, L = lettersTo c 26 := ⟨_, rfl⟩
    obtain ⟨D, hD⟩ : ∃ D, D = Lib.decDigits n := ⟨_, rfl⟩
    have HT : Hid (textOf n c = D ++ 58 :: L) := by unfold Hid textOf; rw [if_neg e, hD, hL]; simp
    have hl : L.length ≤ 26 := by rw [hL]; exact lettersTo_len c 26
    have h22 : ∀ W, Calls Tryz.prog 38 #[.int .u32 c] W fun e w' => e = .returned (.string ⟨L.toArray⟩) ∧ Below W.heap.size W w' := fun W => by rw [hL]; exact letters22 c W hc
    have h21 : ∀ W, Calls Tryz.prog 37 #[.int .i64 n] W fun e w' => e = .returned (.string ⟨D.toArray⟩) ∧ w' = W := fun W => by rw [hD]; exact Tryz.strconv_Itoa_small n (by omega) W
    rw [← hD] at hd
    have H22 := Lib.hid h22
    have H21 := Lib.hid h21
    have hne : ¬ (c : Int) = 0 := by omega
    clear e hL hD h22 h21
    go_enter Tryz.func25, Tryz.ntmps25
    go_wp2_with fail
    refine (valid12_yes _ _ _ HO.out).mono ?_
    rintro e w1 ⟨rfl, hb1⟩
    obtain ⟨x0, x1, hz⟩ := box1 (hb1.mono (B' := w.heap.size + 1) (by simp))
    have hbw := hb0.trans (hb1.mono hb0.size)
    clear hb0 hb1
    go_wp2_with fail
    refine (H21.out _).mono ?_
    rintro e w2 ⟨rfl, rfl⟩
    go_wp2_with fail
    refine (H22.out _).mono ?_
    rintro e w3 ⟨rfl, hb3⟩
    have hbv := hbw.trans (hb3.mono hbw.size)
    go_wp2_with fail
    go_ret2
    exact ⟨by rw [HT.out, ← str_three]; rfl, hbv⟩

theorem size_list (s : ByteArray) : s.size = s.data.toList.length := Array.length_toList.symm
theorem below_drewN' (w : World) (n : Nat) : Below w.heap.size w (w.drewN n) := ⟨rfl, rfl, rfl, Nat.le_refl _, fun _ _ => rfl⟩
theorem ext_take (s : ByteArray) (i : Nat) : s.extract 0 i = ⟨(s.data.toList.take i).toArray⟩ := by
  apply ByteArray.ext
  rw [ByteArray.data_extract]
  apply Array.ext'
  simp
theorem ext_drop (s : ByteArray) (i : Nat) : s.extract i s.size = ⟨(s.data.toList.drop i).toArray⟩ := by
  apply ByteArray.ext
  rw [ByteArray.data_extract]
  apply Array.ext'
  rw [Array.toList_extract]
  simp
  rw [List.take_of_length_le]
  rw [List.length_drop, size_list]
  exact Nat.le_refl _
theorem idx_le {s : ByteArray} {x : UInt8} {i : Nat} (h : Lib.indexByte s.data.toList x = (i : Int)) : i < s.size := by
  have hm : x ∈ s.data.toList := (index_mem _ _).1 (by omega)
  have := index_yes _ _ hm
  rw [size_list]; omega
/-- What stands ahead of the first x, and what behind it. -/
def headOf (x : UInt8) (s : List UInt8) : List UInt8 := if 0 ≤ Lib.indexByte s x then s.take (Lib.indexByte s x).toNat else s
def tailOf (x : UInt8) (s : List UInt8) : List UInt8 := if 0 ≤ Lib.indexByte s x then s.drop ((Lib.indexByte s x).toNat + 1) else []
set_option maxHeartbeats 400000 in
theorem cut32_yes (s : ByteArray) (x : UInt8) (i : Nat) (w : World) (hs : s.size ≤ 281474976710656) (h : Lib.indexByte s.data.toList x = (i : Int)) :
    Calls Tryz.prog 42 #[.string s, .string ⟨#[x]⟩] w fun e w' => e = .returned (.tuple #[.string ⟨(s.data.toList.take i).toArray⟩, .string ⟨(s.data.toList.drop (i + 1)).toArray⟩, .bool true]) ∧ Below w.heap.size w w' := by
  have hi := idx_le h
  have hi2 : (i : Int) < (s.size : Int) := by omega
  have H42 : Hid (∀ W, Calls Tryz.prog 55 #[.string s, .string ⟨#[x]⟩] W fun e w' => e = .returned (.int .i64 i) ∧ w' = W) := fun W => by rw [← h]; exact Tryz.stringslite_Index_one s x W
  clear h
  go_enter Tryz.func42, Tryz.ntmps42
  go_wp2_with fail
  refine (H42.out _).mono ?_
  rintro e w2 ⟨rfl, rfl⟩
  go_wp2_with fail
  go_quiet (fail)
  go_wp2_with fail
  go_ret3
  exact ⟨by rw [← ext_take, ← ext_drop]; rfl, below_drewN' _ _⟩
set_option maxHeartbeats 400000 in
theorem cut32_no (s : ByteArray) (x : UInt8) (w : World) (h : Lib.indexByte s.data.toList x = -1) :
    Calls Tryz.prog 42 #[.string s, .string ⟨#[x]⟩] w fun e w' => e = .returned (.tuple #[.string s, .string ⟨#[]⟩, .bool false]) ∧ Below w.heap.size w w' := by
  have H42 : Hid (∀ W, Calls Tryz.prog 55 #[.string s, .string ⟨#[x]⟩] W fun e w' => e = .returned (.int .i64 (-1)) ∧ w' = W) := fun W => by rw [← h]; exact Tryz.stringslite_Index_one s x W
  clear h
  go_enter Tryz.func42, Tryz.ntmps42
  go_wp2_with fail
  refine (H42.out _).mono ?_
  rintro e w2 ⟨rfl, rfl⟩
  go_wp2_with fail
  go_ret3
  exact ⟨rfl, Below.refl _ _⟩
theorem cut32 (s : ByteArray) (x : UInt8) (w : World) (hs : s.size ≤ 281474976710656) :
    Calls Tryz.prog 42 #[.string s, .string ⟨#[x]⟩] w fun e w' => e = .returned (.tuple #[.string ⟨(headOf x s.data.toList).toArray⟩, .string ⟨(tailOf x s.data.toList).toArray⟩, .bool (decide (0 ≤ Lib.indexByte s.data.toList x))]) ∧ Below w.heap.size w w' := by
  unfold headOf tailOf
  by_cases h : 0 ≤ Lib.indexByte s.data.toList x
  · obtain ⟨i, hi⟩ := Int.eq_ofNat_of_zero_le h
    rw [decide_eq_true h, if_pos h, if_pos h, hi, Int.toNat_natCast]
    exact cut32_yes s x i w hs hi
  · have hi : Lib.indexByte s.data.toList x = -1 := by have := index_lt s.data.toList x; omega
    rw [decide_eq_false h, if_neg h, if_neg h]
    exact cut32_no s x w hi
set_option maxHeartbeats 400000 in
theorem cutx (s : ByteArray) (x : UInt8) (w : World) (hs : s.size ≤ 281474976710656) :
    Calls Tryz.prog 28 #[.string s, .string ⟨#[x]⟩] w fun e w' => e = .returned (.tuple #[.string ⟨(headOf x s.data.toList).toArray⟩, .string ⟨(tailOf x s.data.toList).toArray⟩, .bool (decide (0 ≤ Lib.indexByte s.data.toList x))]) ∧ Below w.heap.size w w' := by
  have H := Lib.hid (cut32 s x)
  generalize headOf x s.data.toList = D at *
  generalize tailOf x s.data.toList = C at *
  generalize decide (0 ≤ Lib.indexByte s.data.toList x) = f at *
  go_enter Tryz.func28, Tryz.ntmps28
  go_wp2_with fail
  refine (H.out _ hs).mono ?_
  rintro e w2 ⟨rfl, hb⟩
  go_wp2_with fail
  go_ret3
  exact ⟨rfl, hb⟩
theorem cut24 (s : ByteArray) (w : World) (hs : s.size ≤ 281474976710656) :
    Calls Tryz.prog 28 #[.string s, .string ⟨#[58]⟩] w fun e w' => ∃ f, e = .returned (.tuple #[.string ⟨(digitsOf s.data.toList).toArray⟩, .string ⟨(catsOf s.data.toList).toArray⟩, .bool f]) ∧ Below w.heap.size w w' :=
  (cutx s 58 w hs).mono fun _ _ ⟨he, hb⟩ => ⟨_, he, hb⟩
end Go.Proofs.YtoompephogamaaaGreatDoor
