/- The walks of value.guess and value.Parse. -/
import Derived.Test.YtfplncbechidnaaGreatDoorW5
import Derived.Test.YtfplncbechidnaaGreatDoorFr0
import Derived.Lib.AtoiErrMem
namespace Go.Proofs.YtfplncbechidnaaGreatDoor
open Go.RowKit Go.Sort

/-- What the library's two errors of numbers read as: errors, or nothing. -/
def Errs2 (w : World) : Prop :=
  ∃ e2 e3, (w.cell? ⟨5, 0, none⟩ = some e2 ∧ (e2 = .nilIface ∨ ∃ te pe, e2 = .iface te pe)) ∧ (w.cell? ⟨6, 0, none⟩ = some e3 ∧ (e3 = .nilIface ∨ ∃ te pe, e3 = .iface te pe))
theorem Errs2.on {w w' : World} (h : Errs2 w) (hb : Below w.heap.size w w') : Errs2 w' := by
  obtain ⟨e2, e3, ⟨h2, k2⟩, ⟨h3, k3⟩⟩ := h
  exact ⟨e2, e3, ⟨(hb.cell (block_lt_of_cell h2)).trans h2, k2⟩, ⟨(hb.cell (block_lt_of_cell h3)).trans h3, k3⟩⟩
/-- A text as a number, as the library reads it. -/
theorem atoi_ (s : ByteArray) (w : World) (hs : s.size ≤ 281474976710656) (hv : Errs2 w) :
    Calls Tryz.prog 31 #[.string s] w fun e w' => (∃ E, e = .returned (.tuple #[.int .i64 (atoiN s.data.toList), E])) ∧ Below w.heap.size w w' := by
  obtain ⟨e2, e3, ⟨h2, k2⟩, ⟨h3, k3⟩⟩ := hv
  rcases ha : Lib.atoiAll s.data.toList with v | _ | _
  · refine (Tryz.strconv_Atoi_ok s (by omega) v ha w).mono ?_
    rintro e w' ⟨he, rfl | ⟨t, rfl⟩⟩
    · exact ⟨⟨_, by rw [atoiN, ha]; exact he⟩, Below.refl _ _⟩
    · exact ⟨⟨_, by rw [atoiN, ha]; exact he⟩, Lib.bytesWorld_below _ _ _⟩
  · refine (Tryz.strconv_Atoi_syntax s hs ha e2 w h2 k2).mono ?_
    rintro e w' ⟨N, he, _, _, hb⟩
    exact ⟨⟨_, by rw [atoiN, ha]; exact he⟩, hb⟩
  · refine (Tryz.strconv_Atoi_range s hs ha e3 w h3 k3).mono ?_
    rintro e w' ⟨N, he, _, _, hb⟩
    exact ⟨⟨_, by rw [atoiN, ha]; exact he⟩, hb⟩
theorem cut_ (s : ByteArray) (w : World) : Calls Tryz.prog 29 #[.string s, .string ⟨#[39]⟩] w fun e w' => e = .returned (.tuple #[.string ⟨(Lib.trimPrefix s.data.toList [39]).toArray⟩, .bool (Lib.hasPrefix s.data.toList [39])]) ∧ Below w.heap.size w w' :=
  (Tryz.strings_CutPrefix s ⟨#[39]⟩ w).mono fun _ _ ⟨he, hw⟩ => ⟨he, hw ▸ Below.refl _ _⟩
theorem trim_ (s : ByteArray) (w : World) (hs : s.size ≤ 9223372036854775807) : Calls Tryz.prog 30 #[.string s, .string ⟨#[39]⟩] w fun e w' => e = .returned (.string ⟨(Lib.trimSuffix s.data.toList [39]).toArray⟩) ∧ Below w.heap.size w w' :=
  (Tryz.strings_TrimSuffix s ⟨#[39]⟩ w hs).mono fun _ _ ⟨he, hw⟩ => ⟨he, hw ▸ Below.refl _ _⟩
theorem undoubled_ (s : ByteArray) (w : World) (hs : s.size < 4294967281) (hE : Env w) : Calls Tryz.prog 21 #[.string s, .string ⟨#[39, 39]⟩, .string ⟨#[39]⟩] w fun e w' => e = .returned (.string ⟨(Lib.replaceAll s.data.toList [39, 39] [39]).toArray⟩) ∧ Below w.heap.size w w' := by
  obtain ⟨⟨m, hm⟩, _⟩ := hE
  have hc : Lib.countB s ⟨#[39, 39]⟩ ≤ s.size := Lib.countB_le ⟨#[39, 39]⟩ (by decide) s.size s (Nat.le_refl _)
  exact Tryz.strings_ReplaceAll s ⟨#[39, 39]⟩ ⟨#[39]⟩ m w hs hm (by decide) (by show s.size + Lib.countB s ⟨#[39, 39]⟩ * 1 ≤ _; omega)
theorem guess_null (w : World) : Calls Tryz.prog 23 #[.string ⟨nullW.toArray⟩] w fun e w' => e = .returned (.agg #[.int .i64 0, .int .i64 0, .string ⟨#[]⟩, .bool false]) ∧ Below w.heap.size w w' := by
  have HNU : Hid (∀ W, Calls Tryz.prog 8 #[] W fun e w' => e = .returned (.agg #[.int .i64 0, .int .i64 0, .string ⟨#[]⟩, .bool false]) ∧ Below W.heap.size W w') := fun W => null_ W
  simp only [nullW]
  have F0 := Lib.hid (fr0_start w 23)
  go_enter Tryz.func23, Tryz.ntmps23
  go_wp2_with fail
  refine (HNU.out _).mono ?_
  rintro e w1 ⟨rfl, hb1⟩
  have F1 := Lib.hid (F0.out.on hb1)
  clear F0 hb1
  obtain ⟨⟨r0, r1, r2, r3⟩, ⟨f0, f1, f2, f3⟩, hbw, hsz⟩ := F1.out
  go_wp2_with fail
  refine bodyPost_ret (v := .agg #[.int .i64 0, .int .i64 0, .string ⟨#[]⟩, .bool false]) ?_ rfl ⟨rfl, four_set hbw (w.heap.size) (by omega) _ _ _ _⟩
  simp [results, Tryz.results23, go_sem, r0, r1, r2, r3]
theorem guess_true (w : World) : Calls Tryz.prog 23 #[.string ⟨trueW.toArray⟩] w fun e w' => e = .returned (.agg #[.int .i64 3, .int .i64 0, .string ⟨#[]⟩, .bool true]) ∧ Below w.heap.size w w' := by
  have HBo : Hid (∀ W, Calls Tryz.prog 13 #[.bool true] W fun e w' => e = .returned (.agg #[.int .i64 3, .int .i64 0, .string ⟨#[]⟩, .bool true]) ∧ Below W.heap.size W w') := fun W => bool_ _ W
  simp only [trueW]
  have F0 := Lib.hid (fr0_start w 23)
  go_enter Tryz.func23, Tryz.ntmps23
  go_wp2_with fail
  refine (HBo.out _).mono ?_
  rintro e w1 ⟨rfl, hb1⟩
  have F1 := Lib.hid (F0.out.on hb1)
  clear F0 hb1
  obtain ⟨⟨r0, r1, r2, r3⟩, ⟨f0, f1, f2, f3⟩, hbw, hsz⟩ := F1.out
  go_wp2_with fail
  refine bodyPost_ret (v := .agg #[.int .i64 3, .int .i64 0, .string ⟨#[]⟩, .bool true]) ?_ rfl ⟨rfl, four_set hbw (w.heap.size) (by omega) _ _ _ _⟩
  simp [results, Tryz.results23, go_sem, r0, r1, r2, r3]
theorem guess_false (w : World) : Calls Tryz.prog 23 #[.string ⟨falseW.toArray⟩] w fun e w' => e = .returned (.agg #[.int .i64 3, .int .i64 0, .string ⟨#[]⟩, .bool false]) ∧ Below w.heap.size w w' := by
  have HBo : Hid (∀ W, Calls Tryz.prog 13 #[.bool false] W fun e w' => e = .returned (.agg #[.int .i64 3, .int .i64 0, .string ⟨#[]⟩, .bool false]) ∧ Below W.heap.size W w') := fun W => bool_ _ W
  simp only [falseW]
  have F0 := Lib.hid (fr0_start w 23)
  go_enter Tryz.func23, Tryz.ntmps23
  go_wp2_with fail
  refine (HBo.out _).mono ?_
  rintro e w1 ⟨rfl, hb1⟩
  have F1 := Lib.hid (F0.out.on hb1)
  clear F0 hb1
  obtain ⟨⟨r0, r1, r2, r3⟩, ⟨f0, f1, f2, f3⟩, hbw, hsz⟩ := F1.out
  go_wp2_with fail
  refine bodyPost_ret (v := .agg #[.int .i64 3, .int .i64 0, .string ⟨#[]⟩, .bool false]) ?_ rfl ⟨rfl, four_set hbw (w.heap.size) (by omega) _ _ _ _⟩
  simp [results, Tryz.results23, go_sem, r0, r1, r2, r3]
theorem trimP_len (l p : List UInt8) : (Lib.trimPrefix l p).length ≤ l.length := by
  unfold Lib.trimPrefix; split
  · simp
  · exact Nat.le_refl _
theorem trimS_len (l p : List UInt8) : (Lib.trimSuffix l p).length ≤ l.length := by
  unfold Lib.trimSuffix; split
  · simp
  · exact Nat.le_refl _
set_option maxHeartbeats 800000 in
theorem guess_text (s : ByteArray) (w : World) (hs : s.size < 4294967281) (h1 : (s.toList == [78, 85, 76, 76]) = false) (h2 : (s.toList == [84, 82, 85, 69]) = false) (h3 : (s.toList == [70, 65, 76, 83, 69]) = false) (hp : Lib.hasPrefix s.data.toList [39] = true) (hE : Env w) :
    Calls Tryz.prog 23 #[.string s] w fun e w' => e = .returned (.agg #[.int .i64 2, .int .i64 0, .string ⟨(Lib.replaceAll (Lib.trimSuffix (Lib.trimPrefix s.data.toList [39]) [39]) [39, 39] [39]).toArray⟩, .bool false]) ∧ Below w.heap.size w w' := by
  have l1 := trimP_len s.data.toList [39]
  have l2 := trimS_len (Lib.trimPrefix s.data.toList [39]) [39]
  rw [← size_list] at l1
  have HC : Hid (∀ W, Calls Tryz.prog 29 #[.string s, .string ⟨#[39]⟩] W fun e w' => e = .returned (.tuple #[.string ⟨(Lib.trimPrefix s.data.toList [39]).toArray⟩, .bool true]) ∧ Below W.heap.size W w') := fun W => by rw [← hp]; exact cut_ s W
  have HT : Hid (∀ W, Calls Tryz.prog 30 #[.string ⟨(Lib.trimPrefix s.data.toList [39]).toArray⟩, .string ⟨#[39]⟩] W fun e w' => e = .returned (.string ⟨(Lib.trimSuffix (Lib.trimPrefix s.data.toList [39]) [39]).toArray⟩) ∧ Below W.heap.size W w') := fun W => trim_ _ W (by rw [list_size]; omega)
  have HR : Hid (∀ W, Env W → Calls Tryz.prog 21 #[.string ⟨(Lib.trimSuffix (Lib.trimPrefix s.data.toList [39]) [39]).toArray⟩, .string ⟨#[39, 39]⟩, .string ⟨#[39]⟩] W fun e w' => e = .returned (.string ⟨(Lib.replaceAll (Lib.trimSuffix (Lib.trimPrefix s.data.toList [39]) [39]) [39, 39] [39]).toArray⟩) ∧ Below W.heap.size W w') := fun W hW => undoubled_ _ W (by rw [list_size]; omega) hW
  generalize (⟨(Lib.replaceAll (Lib.trimSuffix (Lib.trimPrefix s.data.toList [39]) [39]) [39, 39] [39]).toArray⟩ : ByteArray) = R at *
  generalize (⟨(Lib.trimSuffix (Lib.trimPrefix s.data.toList [39]) [39]).toArray⟩ : ByteArray) = B at *
  generalize (⟨(Lib.trimPrefix s.data.toList [39]).toArray⟩ : ByteArray) = A at *
  have HTx : Hid (∀ W, Calls Tryz.prog 11 #[.string R] W fun e w' => e = .returned (.agg #[.int .i64 2, .int .i64 0, .string R, .bool false]) ∧ Below W.heap.size W w') := fun W => text_ R W
  have HE := Lib.hid hE
  clear hE l1 l2 hp hs
  have F0 := Lib.hid (fr0_start w 23)
  go_enter Tryz.func23, Tryz.ntmps23
  go_wp2_with fail
  refine (HC.out _).mono ?_
  rintro e w1 ⟨rfl, hb1⟩
  have F1 := Lib.hid (F0.out.on hb1)
  clear F0 hb1
  obtain ⟨⟨r0, r1, r2, r3⟩, ⟨f0, f1, f2, f3⟩, hbw, hsz⟩ := F1.out
  go_wp2_with fail
  refine (HT.out _).mono ?_
  rintro e w2 ⟨rfl, hb2⟩
  have F2 := Lib.hid (F1.out.on hb2)
  clear F1 hb2
  clear r0 r1 r2 r3 f0 f1 f2 f3 hbw hsz
  obtain ⟨⟨r0, r1, r2, r3⟩, ⟨f0, f1, f2, f3⟩, hbw, hsz⟩ := F2.out
  go_wp2_with fail
  refine (HR.out _ (HE.out.on hbw)).mono ?_
  rintro e w3 ⟨rfl, hb3⟩
  have F3 := Lib.hid (F2.out.on hb3)
  clear F2 hb3
  clear r0 r1 r2 r3 f0 f1 f2 f3 hbw hsz
  obtain ⟨⟨r0, r1, r2, r3⟩, ⟨f0, f1, f2, f3⟩, hbw, hsz⟩ := F3.out
  go_wp2_with fail
  refine (HTx.out _).mono ?_
  rintro e w4 ⟨rfl, hb4⟩
  have F4 := Lib.hid (F3.out.on hb4)
  clear F3 hb4
  clear r0 r1 r2 r3 f0 f1 f2 f3 hbw hsz
  obtain ⟨⟨r0, r1, r2, r3⟩, ⟨f0, f1, f2, f3⟩, hbw, hsz⟩ := F4.out
  go_wp2_with fail
  refine bodyPost_ret (v := .agg #[.int .i64 2, .int .i64 0, .string R, .bool false]) ?_ rfl ⟨rfl, four_set hbw (w.heap.size) (by omega) _ _ _ _⟩
  simp [results, Tryz.results23, go_sem, r0, r1, r2, r3]

set_option maxHeartbeats 800000 in
theorem guess_int (s : ByteArray) (w : World) (hs : s.size ≤ 281474976710656) (h1 : (s.toList == [78, 85, 76, 76]) = false) (h2 : (s.toList == [84, 82, 85, 69]) = false) (h3 : (s.toList == [70, 65, 76, 83, 69]) = false) (hp : Lib.hasPrefix s.data.toList [39] = false) (hv : Errs2 w) :
    Calls Tryz.prog 23 #[.string s] w fun e w' => e = .returned (.agg #[.int .i64 1, .int .i64 (atoiN s.data.toList), .string ⟨#[]⟩, .bool false]) ∧ Below w.heap.size w w' := by
  have HC : Hid (∀ W, Calls Tryz.prog 29 #[.string s, .string ⟨#[39]⟩] W fun e w' => e = .returned (.tuple #[.string ⟨(Lib.trimPrefix s.data.toList [39]).toArray⟩, .bool false]) ∧ Below W.heap.size W w') := fun W => by rw [← hp]; exact cut_ s W
  have HA : Hid (∀ W, Errs2 W → Calls Tryz.prog 31 #[.string s] W fun e w' => (∃ E, e = .returned (.tuple #[.int .i64 (atoiN s.data.toList), E])) ∧ Below W.heap.size W w') := fun W hW => atoi_ s W hs hW
  generalize atoiN s.data.toList = N at *
  generalize (⟨(Lib.trimPrefix s.data.toList [39]).toArray⟩ : ByteArray) = A at *
  have HI : Hid (∀ W, Calls Tryz.prog 9 #[.int .i64 N] W fun e w' => e = .returned (.agg #[.int .i64 1, .int .i64 N, .string ⟨#[]⟩, .bool false]) ∧ Below W.heap.size W w') := fun W => int_ N W
  have HV := Lib.hid hv
  clear hv hp hs
  have F0 := Lib.hid (fr0_start w 23)
  go_enter Tryz.func23, Tryz.ntmps23
  go_wp2_with fail
  refine (HC.out _).mono ?_
  rintro e w1 ⟨rfl, hb1⟩
  have F1 := Lib.hid (F0.out.on hb1)
  clear F0 hb1
  obtain ⟨⟨r0, r1, r2, r3⟩, ⟨f0, f1, f2, f3⟩, hbw, hsz⟩ := F1.out
  go_wp2_with fail
  refine (HA.out _ (HV.out.on hbw)).mono ?_
  rintro e w2 ⟨⟨E, rfl⟩, hb2⟩
  have F2 := Lib.hid (F1.out.on hb2)
  clear F1 hb2
  clear r0 r1 r2 r3 f0 f1 f2 f3 hbw hsz
  obtain ⟨⟨r0, r1, r2, r3⟩, ⟨f0, f1, f2, f3⟩, hbw, hsz⟩ := F2.out
  go_wp2_with fail
  refine (HI.out _).mono ?_
  rintro e w3 ⟨rfl, hb3⟩
  have F3 := Lib.hid (F2.out.on hb3)
  clear F2 hb3
  clear r0 r1 r2 r3 f0 f1 f2 f3 hbw hsz
  obtain ⟨⟨r0, r1, r2, r3⟩, ⟨f0, f1, f2, f3⟩, hbw, hsz⟩ := F3.out
  go_wp2_with fail
  refine bodyPost_ret (v := .agg #[.int .i64 1, .int .i64 N, .string ⟨#[]⟩, .bool false]) ?_ rfl ⟨rfl, four_set hbw (w.heap.size) (by omega) _ _ _ _⟩
  simp [results, Tryz.results23, go_sem, r0, r1, r2, r3]

theorem word_ne {s : ByteArray} {l : List UInt8} (h : s.data.toList ≠ l) : (s.toList == l) = false := by
  rw [Lib.toList_data]; simpa using h
theorem guess_ (s : ByteArray) (w : World) (hs : s.size < 4294967281) (hE : Env w) (hv : Errs2 w) : Calls Tryz.prog 23 #[.string s] w fun e w' => e = .returned (agV (gs s.data.toList)) ∧ Below w.heap.size w w' := by
  by_cases h1 : s.data.toList = nullW
  · obtain rfl : s = ⟨nullW.toArray⟩ := ba_ext h1
    exact guess_null w
  by_cases h2 : s.data.toList = trueW
  · obtain rfl : s = ⟨trueW.toArray⟩ := ba_ext h2
    exact guess_true w
  by_cases h3 : s.data.toList = falseW
  · obtain rfl : s = ⟨falseW.toArray⟩ := ba_ext h3
    exact guess_false w
  cases hp : Lib.hasPrefix s.data.toList [39]
  · have e : gs s.data.toList = vInt (atoiN s.data.toList) := by rw [gs, if_neg h1, if_neg h2, if_neg h3, if_neg (by rw [hp]; decide)]
    rw [e]
    exact guess_int s w (by omega) (word_ne h1) (word_ne h2) (word_ne h3) hp hv
  · have e : gs s.data.toList = vText (Lib.replaceAll (Lib.trimSuffix (Lib.trimPrefix s.data.toList [39]) [39]) [39, 39] [39]) := by rw [gs, if_neg h1, if_neg h2, if_neg h3, if_pos hp]
    rw [e]
    exact guess_text s w hs (word_ne h1) (word_ne h2) (word_ne h3) hp hE
/-- What Parse makes of a guess. -/
theorem parse_yes (s : ByteArray) (k n : Int) (t : ByteArray) (b : Bool) (w : World) (hE : Env w) (hv : Errs2 w)
    (hg : ∀ W, Env W → Errs2 W → Calls Tryz.prog 23 #[.string s] W fun e w' => e = .returned (.agg #[.int .i64 k, .int .i64 n, .string t, .bool b]) ∧ Below W.heap.size W w') (hp : ∀ W, Env W → Calls Tryz.prog 4 #[.agg #[.int .i64 k, .int .i64 n, .string t, .bool b]] W fun e w' => e = .returned (.tuple #[.string s, .nilIface]) ∧ Below W.heap.size W w') :
    Calls Tryz.prog 6 #[.string s] w fun e w' => e = .returned (.tuple #[.agg #[.int .i64 k, .int .i64 n, .string t, .bool b], .nilIface]) ∧ Below w.heap.size w w' := by
  have HG := Lib.hid hg
  have HP := Lib.hid hp
  have HE := Lib.hid hE
  have HV := Lib.hid hv
  clear hg hp hE hv
  have F0 := Lib.hid (fr0_start w 23)
  go_enter Tryz.func6, Tryz.ntmps6
  go_wp2_with fail
  refine (HG.out _ (HE.out.on F0.out.2.2.1) (HV.out.on F0.out.2.2.1)).mono ?_
  rintro e w1 ⟨rfl, hb1⟩
  have F1 := Lib.hid ((F0.out.on hb1).on ((Below.refl _ _).alloc (Nat.le_refl _) (.cells #[.int .i64 k, .int .i64 n, .string t, .bool b] 23)))
  have P1 := Lib.hid (in4_new w1 k n t b 23)
  obtain ⟨p0, p1, p2, p3⟩ := P1.out
  obtain ⟨⟨r0, r1, r2, r3⟩, ⟨f0, f1, f2, f3⟩, hbw, hsz⟩ := F1.out
  clear F0 hb1
  go_wp2_with fail
  refine (HP.out _ (HE.out.on hbw)).mono ?_
  rintro e w2 ⟨rfl, hb2⟩
  clear p0 p1 p2 p3 r0 r1 r2 r3 f0 f1 f2 f3 hbw hsz
  obtain ⟨p0, p1, p2, p3⟩ := P1.out.on hb2
  obtain ⟨⟨r0, r1, r2, r3⟩, ⟨f0, f1, f2, f3⟩, hbw, hsz⟩ := F1.out.on hb2
  go_wp2_with fail
  refine bodyPost_ret (v := .tuple #[.agg #[.int .i64 k, .int .i64 n, .string t, .bool b], .nilIface]) ?_ rfl ⟨rfl, four_set hbw (w.heap.size) (by omega) _ _ _ _⟩
  simp [results, Tryz.results6, go_sem, r0, r1, r2, r3]

theorem parse_bad (s x : ByteArray) (E : Value) (k n : Int) (t : ByteArray) (b : Bool) (w : World) (hE : Env w) (hv : Errs2 w)
    (hg : ∀ W, Env W → Errs2 W → Calls Tryz.prog 23 #[.string s] W fun e w' => e = .returned (.agg #[.int .i64 k, .int .i64 n, .string t, .bool b]) ∧ Below W.heap.size W w') (hp : ∀ W, Env W → Calls Tryz.prog 4 #[.agg #[.int .i64 k, .int .i64 n, .string t, .bool b]] W fun e w' => e = .returned (.tuple #[.string x, E]) ∧ Below W.heap.size W w') (hbad : (∃ n, E = .iface 47 (.int .i64 n)) ∨ (E = .nilIface ∧ (x.toList == s.toList) = false)) :
    Calls Tryz.prog 6 #[.string s] w fun e w' => e = .returned (.tuple #[.agg #[.int .i64 0, .int .i64 0, .string ⟨#[]⟩, .bool false], .iface 47 (.int .i64 3)]) ∧ Below w.heap.size w w' := by
  have HG := Lib.hid hg
  have HP := Lib.hid hp
  have HE := Lib.hid hE
  have HV := Lib.hid hv
  clear hg hp hE hv
  rcases hbad with ⟨m, rfl⟩ | ⟨rfl, hne⟩
  all_goals
    have F0 := Lib.hid (fr0_start w 23)
    go_enter Tryz.func6, Tryz.ntmps6
    go_wp2_with fail
    refine (HG.out _ (HE.out.on F0.out.2.2.1) (HV.out.on F0.out.2.2.1)).mono ?_
    rintro e w1 ⟨rfl, hb1⟩
    have F1 := Lib.hid ((F0.out.on hb1).on ((Below.refl _ _).alloc (Nat.le_refl _) (.cells #[.int .i64 k, .int .i64 n, .string t, .bool b] 23)))
    have P1 := Lib.hid (in4_new w1 k n t b 23)
    obtain ⟨p0, p1, p2, p3⟩ := P1.out
    obtain ⟨⟨r0, r1, r2, r3⟩, ⟨f0, f1, f2, f3⟩, hbw, hsz⟩ := F1.out
    clear F0 hb1
    go_wp2_with fail
    refine (HP.out _ (HE.out.on hbw)).mono ?_
    rintro e w2 ⟨rfl, hb2⟩
    clear p0 p1 p2 p3 r0 r1 r2 r3 f0 f1 f2 f3 hbw hsz
    obtain ⟨p0, p1, p2, p3⟩ := P1.out.on hb2
    obtain ⟨⟨r0, r1, r2, r3⟩, ⟨f0, f1, f2, f3⟩, hbw, hsz⟩ := F1.out.on hb2
    go_wp2_with fail
    refine bodyPost_ret (v := .tuple #[.agg #[.int .i64 0, .int .i64 0, .string ⟨#[]⟩, .bool false], .iface 47 (.int .i64 3)]) ?_ rfl ⟨rfl, four_set hbw (w.heap.size) (by omega) _ _ _ _⟩
    simp [results, Tryz.results6, go_sem, r0, r1, r2, r3]

/-- What Parse answers. -/
def paE (s : List UInt8) : Int := if told (gs s) s = true then 0 else 3
def paR (s : List UInt8) : Val := if told (gs s) s = true then gs s else vNull
theorem parse_ (s : ByteArray) (w : World) (hs : s.size < 4294967281) (hE : Env w) (hv : Errs2 w) :
    Calls Tryz.prog 6 #[.string s] w fun e w' => e = .returned (.tuple #[agV (paR s.data.toList), errV 47 (paE s.data.toList)]) ∧ Below w.heap.size w w' := by
  have hg := fun (W : World) (hW : Env W) (hX : Errs2 W) => guess_ s W hs hW hX
  have hp := fun (W : World) (hW : Env W) => print_ (gs s.data.toList).k (gs s.data.toList).n (gs s.data.toList).t (gs s.data.toList).b W (gs_in _) hW
  unfold paR paE
  cases ht : told (gs s.data.toList) s.data.toList
  · simp only [Bool.false_eq_true, if_false]
    refine parse_bad s _ _ _ _ _ _ w hE hv hg hp ?_
    by_cases hz : validN (gs s.data.toList) = 0
    · right
      refine ⟨by show errV _ (validN (gs s.data.toList)) = _; rw [hz]; rfl, ?_⟩
      have hne : printL (gs s.data.toList) ≠ s.data.toList := fun e => by
        simp [told, hz, e] at ht
      show ((⟨(prS (gs s.data.toList)).toArray⟩ : ByteArray).toList == s.toList) = false
      rw [prS, if_pos hz, Lib.toList_data, Lib.toList_data]
      simpa using hne
    · left
      exact ⟨_, by show errV _ (validN (gs s.data.toList)) = _; rw [errV, if_neg hz]⟩
  · simp only [if_true]
    simp only [told, Bool.and_eq_true, decide_eq_true_eq] at ht
    refine parse_yes s _ _ _ _ w hE hv hg fun W hW => ?_
    have := hp W hW
    have e1 : (⟨(prS (gs s.data.toList)).toArray⟩ : ByteArray) = s := by
      apply ba_ext
      rw [prS, if_pos ht.1, ht.2]
    have e2 : errV 47 (validN (gs s.data.toList)) = .nilIface := by rw [ht.1]; rfl
    refine this.mono fun e w' ⟨he, hb⟩ => ⟨he.trans ?_, hb⟩
    show Ending.returned (.tuple #[.string ⟨(prS (gs s.data.toList)).toArray⟩, errV 47 (validN (gs s.data.toList))]) = _
    rw [e1, e2]
end Go.Proofs.YtfplncbechidnaaGreatDoor
