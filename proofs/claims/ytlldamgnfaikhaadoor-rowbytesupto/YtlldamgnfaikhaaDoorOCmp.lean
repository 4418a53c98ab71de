/- The walks of slices.CompareFunc and order.Compare, and of the document's Compare. -/
import Derived.Test.YtlldamgnfaikhaaDoorOV2
import Derived.Test.YtlldamgnfaikhaaDoorOMem
namespace Go.Proofs.YtlldamgnfaikhaaDoor
open Go.RowKit Go.Sort

theorem cmpL_step {xs ys : List Val} {i : Nat} (h : i < xs.length) (h' : i < ys.length) : cmpL (xs.drop i) (ys.drop i) = if cmpV xs[i] ys[i] ≠ 0 then cmpV xs[i] ys[i] else cmpL (xs.drop (i + 1)) (ys.drop (i + 1)) := by
  rw [List.drop_eq_getElem_cons h, List.drop_eq_getElem_cons h', cmpL]
theorem cmpL_long {xs ys : List Val} {i : Nat} (h : i < xs.length) (h' : ys.length ≤ i) : cmpL (xs.drop i) (ys.drop i) = 1 := by
  rw [List.drop_eq_getElem_cons h, List.drop_of_length_le h', cmpL]
theorem cmpL_short {xs ys : List Val} {i : Nat} (h : xs.length ≤ i) (h' : i < ys.length) : cmpL (xs.drop i) (ys.drop i) = -1 := by
  rw [List.drop_eq_getElem_cons h', List.drop_of_length_le h, cmpL]
theorem cmpL_both {xs ys : List Val} {i : Nat} (h : xs.length ≤ i) (h' : ys.length ≤ i) : cmpL (xs.drop i) (ys.drop i) = 0 := by
  rw [List.drop_of_length_le h, List.drop_of_length_le h', cmpL]
theorem ValsIn.at4 {w : World} {a : Option Addr} {vs : List Val} (h : ValsIn w a vs) (i : Nat) (hi : i < vs.length) : ∃ b o, a = some ⟨b, o, none⟩ ∧ ∃ k n t bb, vs[i] = ⟨k, n, t, bb⟩ ∧ In4 w b (o + i * 4) k n t bb := by
  obtain ⟨b, o, e, h1⟩ := h i hi
  exact ⟨b, o, e, _, _, _, _, rfl, h1⟩
set_option maxHeartbeats 1000000 in
theorem compareFunc_ (a a' : Option Addr) (c c' : Nat) (xs ys : List Val) (w : World) (h : ValsIn w a xs) (h' : ValsIn w a' ys) (hlen : xs.length ≤ 140737488355328) :
    Calls Tryd.prog 27 #[.slice a xs.length c, .slice a' ys.length c', .func (.func 28) #[] #[]] w fun e w' => e = .returned (.int .i64 (cmpL xs ys)) ∧ Below w.heap.size w w' := by
  obtain ⟨L, hL⟩ : ∃ L, xs.length = L := ⟨_, rfl⟩
  obtain ⟨M, hM⟩ : ∃ M, ys.length = M := ⟨_, rfl⟩
  have HL := Lib.hid hL
  have HM := Lib.hid hM
  have HI := Lib.hid h
  have HI' := Lib.hid h'
  rw [hL] at hlen
  rw [hL, hM]
  clear h h' hL hM
  obtain ⟨R, hR⟩ : ∃ R, cmpL xs ys = R := ⟨_, rfl⟩
  have HR := Lib.hid hR
  rw [hR]
  clear hR
  go_enter Tryd.func27, Tryd.ntmps27
  go_wp2_with fail
  go_loopw [13] (fun iv wr => ∃ i : Nat, i ≤ L ∧ i ≤ M ∧ iv = .int .i64 i ∧ Hid (cmpL (xs.drop i) (ys.drop i) = R) ∧ Hid (Below w.heap.size w wr)) (fun iv _ => L - (intOf iv).toNat)
  case atStart => exact ⟨0, Nat.zero_le _, Nat.zero_le _, rfl, HR, Below.refl _ _⟩
  case round =>
    obtain ⟨i, hi, hi', rfl, HC, HBw⟩ := hrel
    clear HR
    by_cases hlt : i < L
    · have hlt2 : (i : Int) < (L : Int) := by omega
      have hx : i < xs.length := by rw [HL.out]; exact hlt
      obtain ⟨b, o, rfl, k, n, t, bb, hvi, hin⟩ := ValsIn.at4 (HI.out.on HBw.out) i hx
      obtain ⟨p0, p1, p2, p3⟩ := hin
      by_cases hlm : i < M
      · have hlm2 : ¬ (M : Int) ≤ (i : Int) := by omega
        have hlm3 : (i : Int) < (M : Int) := by omega
        have hy : i < ys.length := by rw [HM.out]; exact hlm
        obtain ⟨b', o', rfl, k', n', t', bb', hvi', hin'⟩ := ValsIn.at4 (HI'.out.on HBw.out) i hy
        have g0 : ∀ o, In4 (wr.alloc o) b' (o' + i * 4) k' n' t' bb' := fun o => hin'.alloc o
        have q0 := fun o => (g0 o).1
        have q1 := fun o => (g0 o).2.1
        have q2 := fun o => (g0 o).2.2.1
        have q3 := fun o => (g0 o).2.2.2
        have HF := cmpL_step hx hy
        rw [hvi, hvi', HC.out] at HF
        have HP : Hid (∀ W, Calls Tryd.prog 28 #[.agg #[.int .i64 k, .int .i64 n, .string t, .bool bb], .agg #[.int .i64 k', .int .i64 n', .string t', .bool bb']] W fun e w' => e = .returned (.int .i64 (cmpV ⟨k, n, t, bb⟩ ⟨k', n', t', bb'⟩)) ∧ Below W.heap.size W w') := fun W => comp_ k n t bb k' n' t' bb' W
        clear hin' g0 hvi hvi' HC
        generalize cmpV ⟨k, n, t, bb⟩ ⟨k', n', t', bb'⟩ = D at *
        by_cases h0 : D = 0
        · subst h0
          rw [if_neg (fun e => e rfl)] at HF
          have HF' := Lib.hid HF.symm
          clear HF
          go_wp2_with fail
          refine (HP.out _).mono ?_
          rintro e w1 ⟨rfl, hb1⟩
          have HB1 : Hid (Below w.heap.size w w1) := below_step (below_step HBw.out (((Below.refl _ _).alloc (Nat.le_refl _) _).alloc (by simp) _)) hb1
          clear hb1 HBw p0 p1 p2 p3 q0 q1 q2 q3
          go_wp2_with fail
          go_roundw
          case rel => exact ⟨i + 1, by omega, by omega, by go_num, HF', HB1⟩
          case measure => simp [intOf]; omega
        · rw [if_pos h0] at HF
          subst HF
          have h0' : (R != 0) = true := by simpa using h0
          go_wp2_with fail
          refine (HP.out _).mono ?_
          rintro e w1 ⟨rfl, hb1⟩
          have HB1 : Hid (Below w.heap.size w w1) := below_step (below_step HBw.out (((Below.refl _ _).alloc (Nat.le_refl _) _).alloc (by simp) _)) hb1
          clear hb1 HBw p0 p1 p2 p3 q0 q1 q2 q3
          go_wp2_with fail
          go_ret
          exact ⟨rfl, HB1.out⟩
      · have hlm2 : (M : Int) ≤ (i : Int) := by omega
        have HF := HC.out
        rw [cmpL_long hx (by rw [HM.out]; omega)] at HF
        subst HF
        clear HC hvi
        go_wp2_with fail
        go_ret
        exact ⟨rfl, (HBw.out).alloc HBw.out.size _⟩
    · obtain rfl : i = L := by omega
      by_cases hlm : i < M
      · have hlm2 : (i : Int) < (M : Int) := by omega
        have HF := HC.out
        rw [cmpL_short (by rw [HL.out]; exact Nat.le_refl _) (by rw [HM.out]; exact hlm)] at HF
        subst HF
        clear HC
        go_wp2_with fail
        go_ret
        exact ⟨rfl, HBw.out⟩
      · have hlm2 : ¬ (i : Int) < (M : Int) := by omega
        have HF := HC.out
        rw [cmpL_both (by rw [HL.out]; exact Nat.le_refl _) (by rw [HM.out]; omega)] at HF
        subst HF
        clear HC
        go_wp2_with fail
        go_ret
        exact ⟨rfl, HBw.out⟩
theorem compare_ (a a' : Option Addr) (c c' : Nat) (xs ys : List Val) (w : World) (h : ValsIn w a xs) (h' : ValsIn w a' ys) (hlen : xs.length ≤ 140737488355328) :
    Calls Tryd.prog 15 #[.slice a xs.length c, .slice a' ys.length c'] w fun e w' => e = .returned (.int .i64 (cmpL xs ys)) ∧ Below w.heap.size w w' := by
  have HC := Lib.hid (compareFunc_ a a' c c' xs ys w h h' hlen)
  clear h h'
  go_enter Tryd.func15, Tryd.ntmps15
  go_wp2_with fail
  refine HC.out.mono ?_
  rintro e w1 ⟨rfl, hb1⟩
  go_wp2_with fail
  go_ret
  exact ⟨rfl, hb1⟩
end Go.Proofs.YtlldamgnfaikhaaDoor
