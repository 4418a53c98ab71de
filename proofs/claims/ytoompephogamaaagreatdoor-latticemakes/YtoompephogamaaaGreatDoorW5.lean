/- The walks of label.Parse and of the law's 'sure'. -/
import Derived.Test.YtoompephogamaaaGreatDoorW4
import Derived.Lib.AtoiErrMem
namespace Go.Proofs.YtoompephogamaaaGreatDoor
open Go.RowKit Go.Sort

theorem atoi25_ok (s : ByteArray) (v : Int) (w : World) (hs : s.size ≤ 281474976710656) (h : Lib.atoiAll s.data.toList = .ok v) :
    Calls Tryz.prog 43 #[.string s] w fun e w' => e = .returned (.tuple #[.int .i64 v, .nilIface]) ∧ Below w.heap.size w w' := by
  refine (Tryz.strconv_Atoi_ok s (by omega) v h w).mono ?_
  rintro e w' ⟨he, rfl | ⟨t, rfl⟩⟩
  · exact ⟨he, Below.refl _ _⟩
  · exact ⟨he, Lib.bytesWorld_below _ _ _⟩

/-- The result's own block, still there behind other calls. -/
theorem own1 {w wr : World} {A B : Value} (hb : Below (w.heap.size + 1) (w.alloc (.cells #[A, B] 25)) wr) :
    wr.frozen? ⟨w.heap.size, 0, none⟩ = false ∧ wr.frozen? ⟨w.heap.size, 1, none⟩ = false := by
  refine ⟨?_, ?_⟩
  all_goals (rw [hb.frozen (by simp)]; simp [go_sem])

theorem list_size (l : List UInt8) : (⟨l.toArray⟩ : ByteArray).size = l.length := by rw [size_list]

set_option maxHeartbeats 400000 in
theorem parse9_yes (r : Int) (c : Nat) (w : World) (h : okL r c = true) :
    Calls Tryz.prog 29 #[.string ⟨(textOf r c).toArray⟩] w fun e w' => e = .returned (.tuple #[.agg #[.int .i64 r, .int .u32 c], .nilIface]) ∧ Below w.heap.size w w' := by
  have hlen := text_len h
  obtain ⟨a1, a2⟩ := read_text h
  have hc : c < 4294967296 := by have := (okL_iff.1 h).2.2; omega
  have H7 : Hid (∀ W, Calls Tryz.prog 25 #[.agg #[.int .i64 r, .int .u32 c]] W fun e w' => e = .returned (.tuple #[.string ⟨(textOf r c).toArray⟩, .nilIface]) ∧ Below W.heap.size W w') := fun W => text7_yes r c W h
  have H24 : Hid (∀ W, Calls Tryz.prog 28 #[.string ⟨(textOf r c).toArray⟩, .string ⟨#[58]⟩] W fun e w' => ∃ f, e = .returned (.tuple #[.string ⟨(digitsOf (textOf r c)).toArray⟩, .string ⟨(catsOf (textOf r c)).toArray⟩, .bool f]) ∧ Below W.heap.size W w') := fun W => cut24 _ W (by rw [list_size]; omega)
  have hdl : (digitsOf (textOf r c)).length ≤ 29 := by
    unfold digitsOf
    split
    · exact Nat.le_trans (List.length_take_le' _ _) hlen
    · exact hlen
  generalize textOf r c = T at *
  generalize digitsOf T = D at *
  generalize catsOf T = C at *
  have H25 : Hid (∀ W, Calls Tryz.prog 43 #[.string ⟨D.toArray⟩] W fun e w' => e = .returned (.tuple #[.int .i64 r, .nilIface]) ∧ Below W.heap.size W w') := fun W => atoi25_ok _ r W (by rw [list_size]; omega) a1
  have H26 : Hid (∀ W, Calls Tryz.prog 44 #[.string ⟨C.toArray⟩] W fun e w' => e = .returned (.int .u32 c) ∧ w' = W) := fun W => by
    have := bits26 ⟨C.toArray⟩ W
    rw [show (⟨C.toArray⟩ : ByteArray).data.toList = C from rfl, a2] at this
    exact this
  clear h a1 a2 hlen hdl
  go_enter Tryz.func29, Tryz.ntmps29
  go_wp2_with fail
  refine (H24.out _).mono ?_
  rintro e w1 ⟨f, rfl, hb1⟩
  go_wp2_with fail
  refine (H25.out _).mono ?_
  rintro e w2 ⟨rfl, hb2⟩
  have g1 : w.heap.size + 1 ≤ w1.heap.size := by have := hb1.size; simpa using this
  have g2 : w.heap.size + 1 ≤ w2.heap.size := Nat.le_trans g1 hb2.size
  have hbx : Below (w.heap.size + 1) (w.alloc (Obj.cells #[Value.int IntKind.i64 0, Value.int IntKind.u32 0] 25)) w2 := (hb1.mono (by simp)).trans (hb2.mono g1)
  go_wp2_with fail
  refine (H26.out _).mono ?_
  rintro e w3 ⟨rfl, rfl⟩
  go_wp2_with fail
  refine (H7.out _).mono ?_
  rintro e w4 ⟨rfl, hb4⟩
  obtain ⟨y0, y1, hz⟩ := box1 (hb4.mono (B' := w3.heap.size + 1) (by simp))
  have hbz : Below (w.heap.size + 1) (w.alloc (Obj.cells #[Value.int IntKind.i64 0, Value.int IntKind.u32 0] 25)) w4 := hbx.trans (((Below.refl _ w3).alloc g2 _).trans (hb4.mono (by simp; omega)))
  obtain ⟨x0, x1, hz2⟩ := box1 hbz
  obtain ⟨f0, f1⟩ := own1 hbz
  have hbw : Below w.heap.size w w4 := ((Below.refl _ w).alloc (Nat.le_refl _) _).trans (hbz.mono (by omega))
  clear hbx hb1 hb2 hb4
  go_wp2_with fail
  exact bodyPost_ret (v := .tuple #[.agg #[.int .i64 r, .int .u32 c], .nilIface]) (by simp [results, Tryz.results29, go_sem, x0, x1]) rfl ⟨rfl, (hbw.setCell (Nat.le_refl _) _).setCell (Nat.le_refl _) _⟩

/-- What the errors of the library's parse read: two variables of Go's library, each with some value of an interface's type. -/
def Vars (w : World) : Prop :=
  ∃ e2 e3, (w.cell? ⟨2, 0, none⟩ = some e2 ∧ (e2 = .nilIface ∨ ∃ te pe, e2 = .iface te pe)) ∧ (w.cell? ⟨3, 0, none⟩ = some e3 ∧ (e3 = .nilIface ∨ ∃ te pe, e3 = .iface te pe))
theorem Vars.on {w w' : World} (h : Vars w) (hb : Below w.heap.size w w') : Vars w' := by
  obtain ⟨e2, e3, ⟨h2, k2⟩, ⟨h3, k3⟩⟩ := h
  exact ⟨e2, e3, ⟨(hb.cell (block_lt_of_cell h2)).trans h2, k2⟩, ⟨(hb.cell (block_lt_of_cell h3)).trans h3, k3⟩⟩

theorem atoi25_bad (s : ByteArray) (w : World) (hs : s.size ≤ 281474976710656) (hv : Vars w) (h : ∀ v, Lib.atoiAll s.data.toList ≠ .ok v) :
    Calls Tryz.prog 43 #[.string s] w fun e w' => ∃ v N, e = .returned (.tuple #[.int .i64 v, .iface 128 (.pointer (some ⟨N, 0, none⟩))]) ∧ Below w.heap.size w w' := by
  obtain ⟨e2, e3, ⟨h2, k2⟩, ⟨h3, k3⟩⟩ := hv
  rcases ha : Lib.atoiAll s.data.toList with v | _ | _
  · exact absurd ha (h v)
  · refine (Tryz.strconv_Atoi_fails s hs h (by rw [ha]; intro e; cases e) e2 w h2 k2).mono ?_
    rintro e w' ⟨N, he, _, _, hb⟩
    exact ⟨_, N, he, hb⟩
  · refine (Tryz.strconv_Atoi_range s hs ha e3 w h3 k3).mono ?_
    rintro e w' ⟨N, he, _, _, hb⟩
    exact ⟨_, N, he, hb⟩

theorem digits_len (l : List UInt8) : (digitsOf l).length ≤ l.length := by
  unfold digitsOf
  split
  · exact List.length_take_le' _ _
  · exact Nat.le_refl _

set_option maxHeartbeats 400000 in
theorem parse9_bad (s : ByteArray) (w : World) (hs : s.size ≤ 281474976710656) (hv : Vars w) (h : ∀ v, Lib.atoiAll (digitsOf s.data.toList) ≠ .ok v) :
    Calls Tryz.prog 29 #[.string s] w fun e w' => e = .returned (.tuple #[.agg #[.int .i64 0, .int .u32 0], .iface 49 (.int .i64 3)]) ∧ Below w.heap.size w w' := by
  have H24 : Hid (∀ W, Calls Tryz.prog 28 #[.string s, .string ⟨#[58]⟩] W fun e w' => ∃ f, e = .returned (.tuple #[.string ⟨(digitsOf s.data.toList).toArray⟩, .string ⟨(catsOf s.data.toList).toArray⟩, .bool f]) ∧ Below W.heap.size W w') := fun W => cut24 _ W hs
  have hdl := digits_len s.data.toList
  rw [← size_list] at hdl
  generalize digitsOf s.data.toList = D at *
  generalize catsOf s.data.toList = C at *
  have H25 : Hid (∀ W, Vars W → Calls Tryz.prog 43 #[.string ⟨D.toArray⟩] W fun e w' => ∃ v N, e = .returned (.tuple #[.int .i64 v, .iface 128 (.pointer (some ⟨N, 0, none⟩))]) ∧ Below W.heap.size W w') := fun W hv => atoi25_bad _ W (by rw [list_size]; omega) hv h
  have HV := Lib.hid hv
  clear h hdl hv
  go_enter Tryz.func29, Tryz.ntmps29
  go_wp2_with fail
  refine (H24.out _).mono ?_
  rintro e w1 ⟨f, rfl, hb1⟩
  have g1 : w.heap.size + 1 ≤ w1.heap.size := by have := hb1.size; simpa using this
  have hbw1 : Below w.heap.size w w1 := ((Below.refl _ w).alloc (Nat.le_refl _) _).trans (hb1.mono (by simp))
  go_wp2_with fail
  refine (H25.out _ (HV.out.on hbw1)).mono ?_
  rintro e w2 ⟨v, N, rfl, hb2⟩
  have hbz : Below (w.heap.size + 1) (w.alloc (Obj.cells #[Value.int IntKind.i64 0, Value.int IntKind.u32 0] 25)) w2 := (hb1.mono (by simp)).trans (hb2.mono g1)
  obtain ⟨x0, x1, hz2⟩ := box1 hbz
  obtain ⟨f0, f1⟩ := own1 hbz
  have hbw : Below w.heap.size w w2 := hbw1.trans (hb2.mono hbw1.size)
  clear hb1 hb2 hbw1
  go_wp2_with fail
  exact bodyPost_ret (v := .tuple #[.agg #[.int .i64 0, .int .u32 0], .iface 49 (.int .i64 3)]) (by simp [results, Tryz.results29, go_sem, x0, x1]) rfl ⟨rfl, (hbw.setCell (Nat.le_refl _) _).setCell (Nat.le_refl _) _⟩

set_option maxHeartbeats 400000 in
theorem parse9_odd (s : ByteArray) (r : Int) (w : World) (hs : s.size ≤ 281474976710656) (h : Lib.atoiAll (digitsOf s.data.toList) = .ok r) (hn : ∀ r c, okL r c = true → textOf r c ≠ s.data.toList) :
    Calls Tryz.prog 29 #[.string s] w fun e w' => e = .returned (.tuple #[.agg #[.int .i64 0, .int .u32 0], .iface 49 (.int .i64 3)]) ∧ Below w.heap.size w w' := by
  have H24 : Hid (∀ W, Calls Tryz.prog 28 #[.string s, .string ⟨#[58]⟩] W fun e w' => ∃ f, e = .returned (.tuple #[.string ⟨(digitsOf s.data.toList).toArray⟩, .string ⟨(catsOf s.data.toList).toArray⟩, .bool f]) ∧ Below W.heap.size W w') := fun W => cut24 _ W hs
  have hdl := digits_len s.data.toList
  rw [← size_list] at hdl
  generalize digitsOf s.data.toList = D at *
  generalize catsOf s.data.toList = C at *
  have H25 : Hid (∀ W, Calls Tryz.prog 43 #[.string ⟨D.toArray⟩] W fun e w' => e = .returned (.tuple #[.int .i64 r, .nilIface]) ∧ Below W.heap.size W w') := fun W => atoi25_ok _ r W (by rw [list_size]; omega) h
  have hc26 : bitsTo C 26 < 67108864 := bitsTo_lt C 26
  have H26 : Hid (∀ W, Calls Tryz.prog 44 #[.string ⟨C.toArray⟩] W fun e w' => e = .returned (.int .u32 (bitsTo C 26)) ∧ w' = W) := fun W => bits26 ⟨C.toArray⟩ W
  generalize bitsTo C 26 = c at *
  have hc : c < 4294967296 := by omega
  cases hok : okL r c
  · have H7 : Hid (∀ W, Calls Tryz.prog 25 #[.agg #[.int .i64 r, .int .u32 c]] W fun e w' => e = .returned (.tuple #[.string ⟨#[]⟩, .iface 49 (.int .i64 20)]) ∧ Below W.heap.size W w') := fun W => text7_no r c W hc hok
    clear h hdl hn hok
    go_enter Tryz.func29, Tryz.ntmps29
    go_wp2_with fail
    refine (H24.out _).mono ?_
    rintro e w1 ⟨f, rfl, hb1⟩
    go_wp2_with fail
    refine (H25.out _).mono ?_
    rintro e w2 ⟨rfl, hb2⟩
    have g1 : w.heap.size + 1 ≤ w1.heap.size := by have := hb1.size; simpa using this
    have g2 : w.heap.size + 1 ≤ w2.heap.size := Nat.le_trans g1 hb2.size
    have hbx : Below (w.heap.size + 1) (w.alloc (Obj.cells #[Value.int IntKind.i64 0, Value.int IntKind.u32 0] 25)) w2 := (hb1.mono (by simp)).trans (hb2.mono g1)
    go_wp2_with fail
    refine (H26.out _).mono ?_
    rintro e w3 ⟨rfl, rfl⟩
    go_wp2_with fail
    refine (H7.out _).mono ?_
    rintro e w4 ⟨rfl, hb4⟩
    have hbz : Below (w.heap.size + 1) (w.alloc (Obj.cells #[Value.int IntKind.i64 0, Value.int IntKind.u32 0] 25)) w4 := hbx.trans (((Below.refl _ w3).alloc g2 _).trans (hb4.mono (by simp; omega)))
    obtain ⟨x0, x1, hz2⟩ := box1 hbz
    obtain ⟨f0, f1⟩ := own1 hbz
    have hbw : Below w.heap.size w w4 := ((Below.refl _ w).alloc (Nat.le_refl _) _).trans (hbz.mono (by omega))
    clear hbx hb1 hb2 hb4
    go_wp2_with fail
    exact bodyPost_ret (v := .tuple #[.agg #[.int .i64 0, .int .u32 0], .iface 49 (.int .i64 3)]) (by simp [results, Tryz.results29, go_sem, x0, x1]) rfl ⟨rfl, (hbw.setCell (Nat.le_refl _) _).setCell (Nat.le_refl _) _⟩
  · have H7 : Hid (∀ W, Calls Tryz.prog 25 #[.agg #[.int .i64 r, .int .u32 c]] W fun e w' => e = .returned (.tuple #[.string ⟨(textOf r c).toArray⟩, .nilIface]) ∧ Below W.heap.size W w') := fun W => text7_yes r c W hok
    have hne := hn r c hok
    generalize textOf r c = T at *
    have hq : (T == s.toList) = false := by rw [Lib.toList_data]; simpa using hne
    clear h hdl hn hok
    go_enter Tryz.func29, Tryz.ntmps29
    go_wp2_with fail
    refine (H24.out _).mono ?_
    rintro e w1 ⟨f, rfl, hb1⟩
    go_wp2_with fail
    refine (H25.out _).mono ?_
    rintro e w2 ⟨rfl, hb2⟩
    have g1 : w.heap.size + 1 ≤ w1.heap.size := by have := hb1.size; simpa using this
    have g2 : w.heap.size + 1 ≤ w2.heap.size := Nat.le_trans g1 hb2.size
    have hbx : Below (w.heap.size + 1) (w.alloc (Obj.cells #[Value.int IntKind.i64 0, Value.int IntKind.u32 0] 25)) w2 := (hb1.mono (by simp)).trans (hb2.mono g1)
    go_wp2_with fail
    refine (H26.out _).mono ?_
    rintro e w3 ⟨rfl, rfl⟩
    go_wp2_with fail
    refine (H7.out _).mono ?_
    rintro e w4 ⟨rfl, hb4⟩
    obtain ⟨y0, y1, hz⟩ := box1 (hb4.mono (B' := w3.heap.size + 1) (by simp))
    have hbz : Below (w.heap.size + 1) (w.alloc (Obj.cells #[Value.int IntKind.i64 0, Value.int IntKind.u32 0] 25)) w4 := hbx.trans (((Below.refl _ w3).alloc g2 _).trans (hb4.mono (by simp; omega)))
    obtain ⟨x0, x1, hz2⟩ := box1 hbz
    obtain ⟨f0, f1⟩ := own1 hbz
    have hbw : Below w.heap.size w w4 := ((Below.refl _ w).alloc (Nat.le_refl _) _).trans (hbz.mono (by omega))
    clear hbx hb1 hb2 hb4
    clear hne
    go_wp2_with fail
    exact bodyPost_ret (v := .tuple #[.agg #[.int .i64 0, .int .u32 0], .iface 49 (.int .i64 3)]) (by simp [results, Tryz.results29, go_sem, x0, x1]) rfl ⟨rfl, (hbw.setCell (Nat.le_refl _) _).setCell (Nat.le_refl _) _⟩

/-- A text that is no label's. -/
theorem parse9_no (s : ByteArray) (w : World) (hs : s.size ≤ 281474976710656) (hv : Vars w) (hn : ∀ r c, okL r c = true → textOf r c ≠ s.data.toList) :
    Calls Tryz.prog 29 #[.string s] w fun e w' => e = .returned (.tuple #[.agg #[.int .i64 0, .int .u32 0], .iface 49 (.int .i64 3)]) ∧ Below w.heap.size w w' := by
  by_cases h : ∃ v, Lib.atoiAll (digitsOf s.data.toList) = .ok v
  · obtain ⟨r, h⟩ := h
    exact parse9_odd s r w hs h hn
  · exact parse9_bad s w hs hv fun v e => h ⟨v, e⟩
end Go.Proofs.YtoompephogamaaaGreatDoor
