/- The walk of value.Print, and of what it calls off the shelf. -/
import Derived.Test.YtlldamgnfaikhaaGreatDoorRwPr0
import Derived.Test.YtlldamgnfaikhaaGreatDoorOV2
import Derived.Test.YtlldamgnfaikhaaGreatDoorPShelf
import Derived.Lib.LaidTab
import Derived.WalkSmall
namespace Go.Proofs.YtlldamgnfaikhaaGreatDoor
open Go.RowKit Go.Sort

/-- What the library's own variables hold: a number of its kind, the powers of ten. -/
def Env (w : World) : Prop := (∃ m, w.cell? ⟨1, 0, none⟩ = some (.int .i64 m)) ∧ Lib.TabIs Tryz.prog w "internal/strconv.uint64pow10" .u64 Lib.pow10Tab
theorem gPow : Tryz.prog.globalNamed "internal/strconv.uint64pow10" = some 2 := by kernel_rfl
theorem Env.on {w w' : World} (h : Env w) (hb : Below w.heap.size w w') : Env w' := by
  obtain ⟨⟨m, hm⟩, ht⟩ := h
  refine ⟨⟨m, (hb.cell (block_lt_of_cell hm)).trans hm⟩, ?_⟩
  exact var?_below hb gPow (by unfold Lib.TabIs at ht; exact block_lt_of_cell (World.var?_cell gPow ht 0 |>.trans rfl)) ht
theorem below_grow' (w : World) (k : Nat) (os : Array Obj) : Below w.heap.size w (grow (w.drewN k) os) :=
  ⟨rfl, rfl, rfl, by show w.heap.size ≤ (w.heap ++ os).size; rw [Array.size_append]; omega, fun j hj => by show (w.heap ++ os)[j]? = w.heap[j]?; exact Array.getElem?_append_left hj⟩
theorem itoa_ (n : Int) (w : World) (hn : inI n) (h : Env w) : Calls Tryz.prog 30 #[.int .i64 n] w fun e w' => e = .returned (.string ⟨(Lib.itoa n).toArray⟩) ∧ Below w.heap.size w w' := by
  refine (Tryz.strconv_Itoa n hn.1 hn.2 w h.2).mono fun e w' ⟨he, k, os, hw⟩ => ⟨he, ?_⟩
  subst hw
  exact below_grow' w k os
theorem countB_le1 (s : ByteArray) (c : UInt8) : Lib.countB s ⟨#[c]⟩ ≤ s.size := Lib.countB_le ⟨#[c]⟩ (Nat.le_refl _) s.size s (Nat.le_refl _)
/-- Quotes doubled. -/
theorem doubled_ (t : ByteArray) (w : World) (hl : t.size ≤ 4096) (h : Env w) : Calls Tryz.prog 31 #[.string t, .string ⟨#[39]⟩, .string ⟨#[39, 39]⟩] w fun e w' => e = .returned (.string ⟨(dbl t.data.toList).toArray⟩) ∧ Below w.heap.size w w' := by
  obtain ⟨⟨m, hm⟩, _⟩ := h
  have hc := countB_le1 t 39
  refine (Tryz.strings_ReplaceAll t ⟨#[39]⟩ ⟨#[39, 39]⟩ m w (by omega) hm (by decide) (by show t.size + Lib.countB t ⟨#[39]⟩ * 2 ≤ _; omega)).mono fun e w' ⟨he, hb⟩ => ⟨he.trans ?_, hb⟩
  rw [show (⟨#[39]⟩ : ByteArray).data.toList = [39] from rfl, show (⟨#[39, 39]⟩ : ByteArray).data.toList = [39, 39] from rfl, doubles]
theorem quoted_ba (l : List UInt8) : (⟨#[39]⟩ ++ ⟨l.toArray⟩ ++ ⟨#[39]⟩ : ByteArray) = ⟨(39 :: (l ++ [39])).toArray⟩ := by
  apply ba_ext
  rw [ba_append, ba_append]
  simp
theorem print_bad (k n : Int) (t : ByteArray) (b : Bool) (w : World) (h : validN ⟨k, n, t, b⟩ ≠ 0) :
    Calls Tryz.prog 22 #[.agg #[.int .i64 k, .int .i64 n, .string t, .bool b]] w fun e w' => e = .returned (.tuple #[.string ⟨#[]⟩, errV 47 (validN ⟨k, n, t, b⟩)]) ∧ Below w.heap.size w w' := by
  have HV : Hid (∀ W, Calls Tryz.prog 28 #[.agg #[.int .i64 k, .int .i64 n, .string t, .bool b]] W fun e w' => e = .returned (errV 47 (validN ⟨k, n, t, b⟩)) ∧ Below W.heap.size W w') := fun W => valid_ k n t b W
  obtain ⟨E, hE⟩ : ∃ E, errV 47 (validN ⟨k, n, t, b⟩) = .iface 47 (.int .i64 E) := ⟨_, by rw [errV, if_neg h]⟩
  rw [hE] at HV ⊢
  clear hE h
  go_enter Tryz.func22, Tryz.ntmps22
  go_wp2_with fail
  refine (HV.out _).mono ?_
  rintro e w1 ⟨rfl, hb1⟩
  go_wp2_with fail
  exact bodyPost_ret (v := .tuple #[.string ⟨#[]⟩, .iface 47 (.int .i64 E)]) (by simp [results, Tryz.results22, go_sem]) rfl ⟨rfl, below_step ((Below.refl _ _).alloc (Nat.le_refl _) _) hb1⟩
theorem print_int (k n : Int) (t : ByteArray) (b : Bool) (w : World) (h : validN ⟨k, n, t, b⟩ = 0) (hk : k = 1) (hn : inI n) (hE : Env w) :
    Calls Tryz.prog 22 #[.agg #[.int .i64 k, .int .i64 n, .string t, .bool b]] w fun e w' => e = .returned (.tuple #[.string ⟨(Lib.itoa n).toArray⟩, .nilIface]) ∧ Below w.heap.size w w' := by
  subst hk
  have HV : Hid (∀ W, Calls Tryz.prog 28 #[.agg #[.int .i64 1, .int .i64 n, .string t, .bool b]] W fun e w' => e = .returned (.nilIface) ∧ Below W.heap.size W w') := fun W => by
    have := valid_ 1 n t b W
    rw [h] at this
    exact this
  have HI : Hid (∀ W, Env W → Calls Tryz.prog 30 #[.int .i64 n] W fun e w' => e = .returned (.string ⟨(Lib.itoa n).toArray⟩) ∧ Below W.heap.size W w') := fun W hW => itoa_ n W hn hW
  generalize Lib.itoa n = L at *
  have HP : Hid (In4 (w.alloc (.cells #[.int .i64 1, .int .i64 n, .string t, .bool b] 44)) w.heap.size 0 1 n t b) := in4_new w 1 n t b _
  have HB : Hid (Below w.heap.size w (w.alloc (.cells #[.int .i64 1, .int .i64 n, .string t, .bool b] 44))) := (Below.refl _ _).alloc (Nat.le_refl _) _
  have HE := Lib.hid hE
  clear h hn hE
  go_enter Tryz.func22, Tryz.ntmps22
  go_wp2_with fail
  refine (HV.out _).mono ?_
  rintro e w1 ⟨rfl, hb1⟩
  obtain ⟨p0, p1, p2, p3⟩ := HP.out.on hb1
  have HB1 := Lib.hid (below_step HB.out hb1)
  clear HB hb1 HP
  go_wp2_with fail
  refine (HI.out _ (HE.out.on HB1.out)).mono ?_
  rintro e w2 ⟨rfl, hb2⟩
  go_wp2_with fail
  exact bodyPost_ret (v := .tuple #[.string ⟨L.toArray⟩, .nilIface]) (by simp [results, Tryz.results22, go_sem]) rfl ⟨rfl, below_step HB1.out hb2⟩
theorem print_text (k n : Int) (t : ByteArray) (b : Bool) (w : World) (h : validN ⟨k, n, t, b⟩ = 0) (hk : k = 2) (hl : t.size ≤ 4096) (hE : Env w) :
    Calls Tryz.prog 22 #[.agg #[.int .i64 k, .int .i64 n, .string t, .bool b]] w fun e w' => e = .returned (.tuple #[.string ⟨(39 :: (dbl t.data.toList ++ [39])).toArray⟩, .nilIface]) ∧ Below w.heap.size w w' := by
  subst hk
  have HV : Hid (∀ W, Calls Tryz.prog 28 #[.agg #[.int .i64 2, .int .i64 n, .string t, .bool b]] W fun e w' => e = .returned (.nilIface) ∧ Below W.heap.size W w') := fun W => by
    have := valid_ 2 n t b W
    rw [h] at this
    exact this
  have HI : Hid (∀ W, Env W → Calls Tryz.prog 31 #[.string t, .string ⟨#[39]⟩, .string ⟨#[39, 39]⟩] W fun e w' => e = .returned (.string ⟨(dbl t.data.toList).toArray⟩) ∧ Below W.heap.size W w') := fun W hW => doubled_ t W hl hW
  have hL : (⟨(dbl t.data.toList).toArray⟩ : ByteArray).size ≤ 8192 := by rw [list_size]; have := dbl_len t.data.toList; rw [← size_list] at this; omega
  have hq : (⟨#[39]⟩ : ByteArray).size = 1 := rfl
  have HR : Hid ((⟨#[39]⟩ ++ ⟨(dbl t.data.toList).toArray⟩ ++ ⟨#[39]⟩ : ByteArray) = ⟨(39 :: (dbl t.data.toList ++ [39])).toArray⟩) := quoted_ba _
  generalize (⟨(39 :: (dbl t.data.toList ++ [39])).toArray⟩ : ByteArray) = R at *
  generalize (⟨(dbl t.data.toList).toArray⟩ : ByteArray) = L at *
  have HP : Hid (In4 (w.alloc (.cells #[.int .i64 2, .int .i64 n, .string t, .bool b] 44)) w.heap.size 0 2 n t b) := in4_new w 2 n t b _
  have HB : Hid (Below w.heap.size w (w.alloc (.cells #[.int .i64 2, .int .i64 n, .string t, .bool b] 44))) := (Below.refl _ _).alloc (Nat.le_refl _) _
  have HE := Lib.hid hE
  clear h hl hE
  go_enter Tryz.func22, Tryz.ntmps22
  go_wp2_with fail
  refine (HV.out _).mono ?_
  rintro e w1 ⟨rfl, hb1⟩
  obtain ⟨p0, p1, p2, p3⟩ := HP.out.on hb1
  have HB1 := Lib.hid (below_step HB.out hb1)
  clear HB hb1 HP
  go_wp2_with fail
  refine (HI.out _ (HE.out.on HB1.out)).mono ?_
  rintro e w2 ⟨rfl, hb2⟩
  go_wp2_with fail
  exact bodyPost_ret (v := .tuple #[.string (⟨#[39]⟩ ++ L ++ ⟨#[39]⟩), .nilIface]) (by simp [results, Tryz.results22, go_sem]) rfl ⟨by rw [HR.out], below_step HB1.out hb2⟩
theorem print_true (n : Int) (t : ByteArray) (w : World) (h : validN ⟨3, n, t, true⟩ = 0) :
    Calls Tryz.prog 22 #[.agg #[.int .i64 3, .int .i64 n, .string t, .bool true]] w fun e w' => e = .returned (.tuple #[.string ⟨trueW.toArray⟩, .nilIface]) ∧ Below w.heap.size w w' := by
  have HV : Hid (∀ W, Calls Tryz.prog 28 #[.agg #[.int .i64 3, .int .i64 n, .string t, .bool true]] W fun e w' => e = .returned (.nilIface) ∧ Below W.heap.size W w') := fun W => by
    have := valid_ 3 n t true W
    rw [h] at this
    exact this
  have HP : Hid (In4 (w.alloc (.cells #[.int .i64 3, .int .i64 n, .string t, .bool true] 44)) w.heap.size 0 3 n t true) := in4_new w 3 n t true _
  have HB : Hid (Below w.heap.size w (w.alloc (.cells #[.int .i64 3, .int .i64 n, .string t, .bool true] 44))) := (Below.refl _ _).alloc (Nat.le_refl _) _
  clear h
  go_enter Tryz.func22, Tryz.ntmps22
  go_wp2_with fail
  refine (HV.out _).mono ?_
  rintro e w1 ⟨rfl, hb1⟩
  obtain ⟨p0, p1, p2, p3⟩ := HP.out.on hb1
  have HB1 := Lib.hid (below_step HB.out hb1)
  clear HB hb1 HP
  go_wp2_with fail
  exact bodyPost_ret (v := .tuple #[.string ⟨trueW.toArray⟩, .nilIface]) (by simp [results, Tryz.results22, go_sem, trueW]) rfl ⟨rfl, HB1.out⟩
theorem print_false (n : Int) (t : ByteArray) (w : World) (h : validN ⟨3, n, t, false⟩ = 0) :
    Calls Tryz.prog 22 #[.agg #[.int .i64 3, .int .i64 n, .string t, .bool false]] w fun e w' => e = .returned (.tuple #[.string ⟨falseW.toArray⟩, .nilIface]) ∧ Below w.heap.size w w' := by
  have HV : Hid (∀ W, Calls Tryz.prog 28 #[.agg #[.int .i64 3, .int .i64 n, .string t, .bool false]] W fun e w' => e = .returned (.nilIface) ∧ Below W.heap.size W w') := fun W => by
    have := valid_ 3 n t false W
    rw [h] at this
    exact this
  have HP : Hid (In4 (w.alloc (.cells #[.int .i64 3, .int .i64 n, .string t, .bool false] 44)) w.heap.size 0 3 n t false) := in4_new w 3 n t false _
  have HB : Hid (Below w.heap.size w (w.alloc (.cells #[.int .i64 3, .int .i64 n, .string t, .bool false] 44))) := (Below.refl _ _).alloc (Nat.le_refl _) _
  clear h
  go_enter Tryz.func22, Tryz.ntmps22
  go_wp2_with fail
  refine (HV.out _).mono ?_
  rintro e w1 ⟨rfl, hb1⟩
  obtain ⟨p0, p1, p2, p3⟩ := HP.out.on hb1
  have HB1 := Lib.hid (below_step HB.out hb1)
  clear HB hb1 HP
  go_wp2_with fail
  exact bodyPost_ret (v := .tuple #[.string ⟨falseW.toArray⟩, .nilIface]) (by simp [results, Tryz.results22, go_sem, falseW]) rfl ⟨rfl, HB1.out⟩
theorem print_null (k n : Int) (t : ByteArray) (b : Bool) (w : World) (h : validN ⟨k, n, t, b⟩ = 0) (h1 : k ≠ 1) (h2 : k ≠ 2) (h3 : k ≠ 3) :
    Calls Tryz.prog 22 #[.agg #[.int .i64 k, .int .i64 n, .string t, .bool b]] w fun e w' => e = .returned (.tuple #[.string ⟨nullW.toArray⟩, .nilIface]) ∧ Below w.heap.size w w' := by
  have HV : Hid (∀ W, Calls Tryz.prog 28 #[.agg #[.int .i64 k, .int .i64 n, .string t, .bool b]] W fun e w' => e = .returned (.nilIface) ∧ Below W.heap.size W w') := fun W => by
    have := valid_ k n t b W
    rw [h] at this
    exact this
  have HP : Hid (In4 (w.alloc (.cells #[.int .i64 k, .int .i64 n, .string t, .bool b] 44)) w.heap.size 0 k n t b) := in4_new w k n t b _
  have HB : Hid (Below w.heap.size w (w.alloc (.cells #[.int .i64 k, .int .i64 n, .string t, .bool b] 44))) := (Below.refl _ _).alloc (Nat.le_refl _) _
  clear h
  go_enter Tryz.func22, Tryz.ntmps22
  go_wp2_with fail
  refine (HV.out _).mono ?_
  rintro e w1 ⟨rfl, hb1⟩
  obtain ⟨p0, p1, p2, p3⟩ := HP.out.on hb1
  have HB1 := Lib.hid (below_step HB.out hb1)
  clear HB hb1 HP
  go_wp2_with fail
  exact bodyPost_ret (v := .tuple #[.string ⟨nullW.toArray⟩, .nilIface]) (by simp [results, Tryz.results22, go_sem, nullW]) rfl ⟨rfl, HB1.out⟩
/-- What Print tells beside its error. -/
def prS (v : Val) : List UInt8 := if validN v = 0 then printL v else []
theorem print_ (k n : Int) (t : ByteArray) (b : Bool) (w : World) (hn : inI n) (hE : Env w) :
    Calls Tryz.prog 22 #[.agg #[.int .i64 k, .int .i64 n, .string t, .bool b]] w fun e w' => e = .returned (.tuple #[.string ⟨(prS ⟨k, n, t, b⟩).toArray⟩, errV 47 (validN ⟨k, n, t, b⟩)]) ∧ Below w.heap.size w w' := by
  by_cases h : validN ⟨k, n, t, b⟩ = 0
  · rw [prS, if_pos h, h]
    by_cases h1 : k = 1
    · refine (print_int k n t b w h h1 hn hE).mono fun e w' ⟨he, hb⟩ => ⟨he.trans ?_, hb⟩
      rw [printL, if_pos h1]; rfl
    by_cases h2 : k = 2
    · refine (print_text k n t b w h h2 (size_of_valid h) hE).mono fun e w' ⟨he, hb⟩ => ⟨he.trans ?_, hb⟩
      rw [printL, if_neg h1, if_pos h2]; rfl
    by_cases h3 : k = 3
    · subst h3
      cases b
      · exact print_false n t w h
      · exact print_true n t w h
    · refine (print_null k n t b w h h1 h2 h3).mono fun e w' ⟨he, hb⟩ => ⟨he.trans ?_, hb⟩
      rw [printL, if_neg h1, if_neg h2, if_neg h3]; rfl
  · refine (print_bad k n t b w h).mono fun e w' ⟨he, hb⟩ => ⟨he.trans ?_, hb⟩
    rw [prS, if_neg h]
end Go.Proofs.YtlldamgnfaikhaaGreatDoor
