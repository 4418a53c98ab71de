/- The walks of the law's 'ints' and 'sure'. -/
import Derived.Test.YtoompephogamaaaGreatDoorParse2
import Derived.Test.YtoompephogamaaaGreatDoorOrd2
namespace Go.Proofs.YtoompephogamaaaGreatDoor
open Go.RowKit Go.Sort

theorem get_eq {x y : List Nat} (hl : x.length = y.length) (h : ∀ j, j < x.length → x.getD j 0 = y.getD j 0) : x = y := by
  refine List.ext_getElem hl fun i h1 h2 => ?_
  have := h i h1
  rwa [List.getD_eq_getElem?_getD, List.getD_eq_getElem?_getD, List.getElem?_eq_getElem h1, List.getElem?_eq_getElem h2] at this

set_option maxHeartbeats 1000000 in
theorem ints_ (a b : Option Addr) (c d : Nat) (x y : List Nat) (w : World) (hx : IntsIn w a x) (hy : IntsIn w b y) (hn : x.length ≤ 16) :
    Calls Tryz.prog 22 #[.slice a x.length c, .slice b y.length d] w fun e w' => e = .returned (.bool (decide (x = y))) ∧ Below w.heap.size w w' := by
  by_cases hl : x.length = y.length
  · have HD : Hid ((∀ j, j < x.length → x.getD j 0 = y.getD j 0) → x = y) := get_eq hl
    have HNE : Hid (∀ j, x.getD j 0 ≠ y.getD j 0 → x ≠ y) := fun j h e => h (by rw [e])
    have HX := Lib.hid hx
    have HY : Hid (∀ i, i < x.length → ∃ b' o, b = some ⟨b', o, none⟩ ∧ w.cell? ⟨b', o + i, none⟩ = some (.int .i64 (y.getD i 0 : Nat))) := fun i hi => hy i (by omega)
    rw [← hl]
    obtain ⟨R, hR⟩ : ∃ R : Bool, R = decide (x = y) := ⟨_, rfl⟩
    have HR := Lib.hid hR
    rw [← hR]
    clear hx hy hl hR
    obtain ⟨n, hnn⟩ : ∃ n, x.length = n := ⟨_, rfl⟩
    have HX' : Hid (∀ i, i < n → ∃ b' o, a = some ⟨b', o, none⟩ ∧ w.cell? ⟨b', o + i, none⟩ = some (.int .i64 (x.getD i 0 : Nat))) := fun i hi => HX.out i (by omega)
    rw [hnn] at hn HD HY ⊢
    clear hnn HX
    go_enter Tryz.func22, Tryz.ntmps22
    go_wp2_with fail
    go_loopw [5] (fun iv wr => ∃ k : Nat, k ≤ n ∧ iv = .int .i64 k ∧ Below w.heap.size w wr ∧ ∀ j, j < k → x.getD j 0 = y.getD j 0) (fun iv _ => n - (intOf iv).toNat)
    case atStart => exact ⟨0, Nat.zero_le _, rfl, Below.refl _ _, fun j hj => by omega⟩
    case round =>
      obtain ⟨k, hk, rfl, hb, hall⟩ := hrel
      have HA := Lib.hid hall
      clear hall
      by_cases hlt : k < n
      · obtain ⟨b1, o1, rfl, c1⟩ := HX'.out k hlt
        obtain ⟨b2, o2, rfl, c2⟩ := HY.out k hlt
        have d1 := (hb.cell (block_lt_of_cell c1)).trans c1
        have d2 := (hb.cell (block_lt_of_cell c2)).trans c2
        clear c1 c2
        obtain ⟨u, hu⟩ : ∃ u, u = x.getD k 0 := ⟨_, rfl⟩
        obtain ⟨v, hv⟩ : ∃ v, v = y.getD k 0 := ⟨_, rfl⟩
        rw [← hu] at d1
        rw [← hv] at d2
        have HU := Lib.hid hu
        have HV := Lib.hid hv
        clear hu hv
        by_cases he : u = v
        · subst he
          go_wp2_with fail
          go_quiet (fail)
          have hb2 : Below w.heap.size w (wr.drewN nq) := hb.trans ((below_drewN' wr nq).mono hb.size)
          generalize wr.drewN nq = W2 at *
          go_wp2_with fail
          go_roundw
          case rel =>
            refine ⟨k + 1, by omega, by go_num, hb2, fun j hj => ?_⟩
            by_cases e : j = k
            · subst e; rw [← HU.out, ← HV.out]
            · exact HA.out j (by omega)
          case measure => simp [intOf]; omega
        · have hne : ¬ (u : Int) = (v : Int) := by omega
          have HF : Hid (R = false) := by
            unfold Hid
            rw [HR.out]
            exact decide_eq_false (HNE.out k (by rw [← HU.out, ← HV.out]; exact he))
          go_wp2_with fail
          go_quiet (fail)
          have hb2 : Below w.heap.size w (wr.drewN nq) := hb.trans ((below_drewN' wr nq).mono hb.size)
          generalize wr.drewN nq = W2 at *
          go_wp2_with fail
          go_ret
          exact ⟨ret_bool HF.out.symm, hb2⟩
      · have HT : Hid (R = true) := by
          unfold Hid
          rw [HR.out]
          exact decide_eq_true (HD.out fun j hj => HA.out j (by omega))
        go_wp2_with fail
        go_ret
        exact ⟨ret_bool HT.out.symm, hb⟩
  · have hne : x ≠ y := fun e => hl (by rw [e])
    rw [decide_eq_false hne]
    have hl' : ¬ (x.length : Int) = (y.length : Int) := by omega
    clear hx hy hne
    generalize x.length = n at *
    generalize y.length = m at *
    go_enter Tryz.func22, Tryz.ntmps22
    go_wp2
    go_ret
    exact ⟨rfl, Below.refl _ _⟩

def sureL : List Lab := [(2, 3), (0, 0)]
theorem sure_pieces : pieces [50, 58, 97, 98, 32, 48] = sureL.map textL := by decide +kernel
theorem sure_ok : sureL.all okLab = true := by decide +kernel
theorem sure_err : newErr sureL = 0 := by decide +kernel
theorem sure_order : orderL sureL = [1, 0] := by decide +kernel
theorem sure_parse (w : World) : Calls Tryz.prog 16 #[.string ⟨#[50, 58, 97, 98, 32, 48]⟩] w fun e w' => Below w.heap.size w w' ∧ ∃ q, e = .returned (.tuple #[.pointer (some ⟨q, 0, none⟩), .nilIface]) ∧ LatIn w' (.pointer (some ⟨q, 0, none⟩)) sureL := by
  refine (parse_yes ⟨#[50, 58, 97, 98, 32, 48]⟩ sureL w (by decide) sure_pieces sure_ok).mono ?_
  rintro e w' ⟨hb, p, er, he, ⟨h0, _⟩ | ⟨_, h1, q, h2, h3⟩⟩
  · exact absurd sure_err h0
  · subst h1 h2
    exact ⟨hb, q, he, h3⟩

set_option maxHeartbeats 1000000 in
theorem sure_ (w : World) : Calls Tryz.prog 9 #[] w fun e w' => e = .returned (.bool true) ∧ Below w.heap.size w w' := by
  have hO : ∀ W q, LatIn W (.pointer (some ⟨q, 0, none⟩)) sureL → Calls Tryz.prog 23 #[.pointer (some ⟨q, 0, none⟩)] W fun e w' => ∃ a' c', e = .returned (.slice a' 2 c') ∧ IntsIn w' a' [1, 0] ∧ Below W.heap.size W w' := fun W q h => by
    have := order_ _ sureL W h (all_allW sure_ok) (newErr_zero sure_err).2.2.2 (newErr_zero sure_err).2.1
    rw [sure_order] at this
    exact this
  have HO := Lib.hid hO
  have hI : ∀ (a b : Option Addr) (c d : Nat) (W : World), IntsIn W a [1, 0] → IntsIn W b [1, 0] → Calls Tryz.prog 22 #[.slice a 2 c, .slice b 2 d] W fun e w' => e = .returned (.bool true) ∧ Below W.heap.size W w' := fun a b c d W h1 h2 => by
    have := ints_ a b c d [1, 0] [1, 0] W h1 h2 (by decide)
    exact this
  have HI := Lib.hid hI
  clear hO hI
  go_enter Tryz.func9, Tryz.ntmps9
  go_wp2_with fail
  refine (sure_parse _).mono ?_
  rintro e w1 ⟨hb1, q, rfl, hl⟩
  have HL := Lib.hid hl
  clear hl
  go_wp2_with fail
  refine (HO.out _ q HL.out).mono ?_
  rintro e w2 ⟨a2, c2, rfl, hin, hb2⟩
  have HIN := Lib.hid hin
  clear hin
  have hal : Below w2.heap.size w2 (w2.alloc (.cells #[.int .i64 1, .int .i64 0] 3)) := (Below.refl _ _).alloc (Nat.le_refl _) _
  have HN : Hid (IntsIn (w2.alloc (.cells #[.int .i64 1, .int .i64 0] 3)) (some ⟨w2.heap.size, 0, none⟩) [1, 0]) := by
    intro i hi
    refine ⟨_, _, rfl, ?_⟩
    match i, hi with
    | 0, _ => simp [go_sem]
    | 1, _ => simp [go_sem]
  have hb3 : Below w.heap.size w (w2.alloc (.cells #[.int .i64 1, .int .i64 0] 3)) := hb1.trans ((hb2.trans (hal.mono hb2.size)).mono hb1.size)
  go_wp2_with fail
  refine (HI.out _ _ _ _ _ (HIN.out.on hal) HN.out).mono ?_
  rintro e w4 ⟨rfl, hb4⟩
  have hb5 : Below w.heap.size w w4 := hb3.trans (hb4.mono hb3.size)
  go_wp2_with fail
  go_ret
  exact ⟨rfl, hb5⟩
end Go.Proofs.YtoompephogamaaaGreatDoor
