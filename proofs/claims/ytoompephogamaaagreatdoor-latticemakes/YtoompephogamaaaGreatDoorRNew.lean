/- The walk of the document's own New. -/
import Derived.Test.YtoompephogamaaaGreatDoorParse
import Derived.Test.YtoompephogamaaaGreatDoorW6
namespace Go.Proofs.YtoompephogamaaaGreatDoor
open Go.RowKit Go.Sort

set_option maxHeartbeats 400000 in
theorem rnew_arg (a : Option Addr) (c : Nat) (w : World) :
    Calls Tryz.prog 7 #[.slice a 0 c] w fun e w' => e = .returned (.int .i64 1) ∧ Below w.heap.size w w' := by
  go_enter Tryz.func7, Tryz.ntmps7
  go_wp2
  go_ret
  exact ⟨rfl, Below.refl _ _⟩
set_option maxHeartbeats 400000 in
theorem rnew_long (a : Option Addr) (n c : Nat) (w : World) (h : 16 < n) :
    Calls Tryz.prog 7 #[.slice a n c] w fun e w' => e = .returned (.int .i64 2) ∧ Below w.heap.size w w' := by
  have h0 : ¬ n = 0 := by omega
  have h1 : (16 : Int) < (n : Int) := by omega
  go_enter Tryz.func7, Tryz.ntmps7
  go_wp2
  go_ret
  exact ⟨rfl, Below.refl _ _⟩

set_option maxHeartbeats 1000000 in
theorem rnew_label (a : Option Addr) (c : Nat) (ls : List Lab) (w : World) (h : LabsIn w a ls) (h0 : 0 < ls.length) (hn : ls.length ≤ 16) (hw : allW ls) (hb : ls.all okLab = false) :
    Calls Tryz.prog 7 #[.slice a ls.length c] w fun e w' => e = .returned (.int .i64 20) ∧ Below w.heap.size w w' := by
  have HB : Hid (¬ ∀ j, j < ls.length → okLab (lab ls j) = true) := fun hall => by
    have : ls.all okLab = true := List.all_eq_true.2 fun x hx => by
      obtain ⟨j, hj, rfl⟩ := List.mem_iff_getElem.1 hx
      have := hall j hj
      unfold lab at this
      rw [List.getD_eq_getElem?_getD, List.getElem?_eq_getElem hj] at this
      exact this
    rw [this] at hb; cases hb
  have HL := Lib.hid h
  have HW : Hid (∀ i, (lab ls i).2 < 4294967296) := lab_lt hw
  clear h hb hw
  obtain ⟨n, hnn⟩ : ∃ n, ls.length = n := ⟨_, rfl⟩
  rw [hnn] at h0 hn HB ⊢
  have HLn : Hid (∀ W, Below w.heap.size w W → ∀ i, i < n → ∃ b o, a = some ⟨b, o, none⟩ ∧ W.cell? ⟨b, o + i * 2, none⟩ = some (.int .i64 (lab ls i).1) ∧ W.cell? ⟨b, o + i * 2 + 1, none⟩ = some (.int .u32 (lab ls i).2)) := fun W hW i hi => HL.out.on hW i (hnn ▸ hi)
  clear hnn HL
  have h1 : ¬ n = 0 := by omega
  have h2 : ¬ (16 : Int) < (n : Int) := by omega
  go_enter Tryz.func7, Tryz.ntmps7
  go_wp2_with fail
  go_loopw [3] (fun iv wr => ∃ k : Nat, k ≤ n ∧ iv = .int .i64 k ∧ Below w.heap.size w wr ∧ ∀ j, j < k → okLab (lab ls j) = true) (fun iv _ => n - (intOf iv).toNat)
  case atStart => exact ⟨0, Nat.zero_le _, rfl, Below.refl _ _, fun j hj => by omega⟩
  case round =>
    obtain ⟨k, hk, rfl, hbw, hall⟩ := hrel
    have HA := Lib.hid hall
    clear hall
    by_cases hlt : k < n
    · obtain ⟨b, o, rfl, c1, c2⟩ := HLn.out wr hbw k hlt
      have hcc := HW.out k
      have HV : Hid (okLab (lab ls k) = okL (lab ls k).1 (lab ls k).2) := rfl
      generalize (lab ls k).1 = r at *
      generalize (lab ls k).2 = cc at *
      cases hok : okL r cc
      · go_wp2_with fail
        refine (valid13_no r cc _ hcc hok).mono ?_
        rintro e w2 ⟨rfl, hb2⟩
        have hb3 : Below w.heap.size w w2 := hbw.trans (hb2.mono hbw.size)
        go_wp2_with fail
        go_ret
        exact ⟨rfl, hb3⟩
      · go_wp2_with fail
        refine (valid13_yes r cc _ hok).mono ?_
        rintro e w2 ⟨rfl, hb2⟩
        have hb3 : Below w.heap.size w w2 := hbw.trans (hb2.mono hbw.size)
        have HK := Lib.hid hok
        clear hok
        go_wp2_with fail
        go_roundw
        case rel =>
          refine ⟨k + 1, by omega, by go_num, hb3, fun j hj => ?_⟩
          by_cases e : j = k
          · subst e; rw [HV.out]; exact HK.out
          · exact HA.out j (by omega)
        case measure => simp [intOf]; omega
    · exact absurd (fun j hj => HA.out j (by omega)) HB.out

set_option maxHeartbeats 2000000 in
set_option maxRecDepth 100000 in
theorem rnew_rest (a : Option Addr) (c : Nat) (ls : List Lab) (w : World) (h : LabsIn w a ls) (h0 : 0 < ls.length) (hn : ls.length ≤ 16) (hok : ls.all okLab = true) :
    Calls Tryz.prog 7 #[.slice a ls.length c] w fun e w' => Below w.heap.size w w' ∧ ((¬ ls.Nodup ∧ e = .returned (.int .i64 9)) ∨ (ls.Nodup ∧ e = .returned (.int .i64 0))) := by
  have hokj : ∀ j, j < ls.length → okLab (lab ls j) = true := fun j hj => List.all_eq_true.1 hok _ (lab_mem hj)
  have HOK := Lib.hid hokj
  have HL := Lib.hid h
  have HTW : Hid (∀ j k, j < k → k < ls.length → lab ls j = lab ls k → ¬ ls.Nodup) := fun j k hjk hk e hd => by
    have := lab_inj hd (by omega) hk e
    omega
  have HND : Hid ((∀ j k, j < k → k < ls.length → lab ls j ≠ lab ls k) → ls.Nodup) := fun hh => by
    refine List.pairwise_iff_getElem.2 fun i j hi hj hij => ?_
    have := hh i j hij hj
    unfold lab at this
    rwa [List.getD_eq_getElem?_getD, List.getD_eq_getElem?_getD, List.getElem?_eq_getElem hi, List.getElem?_eq_getElem hj] at this
  clear h hok hokj
  obtain ⟨n, hnn⟩ : ∃ n, ls.length = n := ⟨_, rfl⟩
  rw [hnn] at h0 hn HOK HTW HND ⊢
  have HLn : Hid (∀ W, Below w.heap.size w W → ∀ i, i < n → ∃ b o, a = some ⟨b, o, none⟩ ∧ W.cell? ⟨b, o + i * 2, none⟩ = some (.int .i64 (lab ls i).1) ∧ W.cell? ⟨b, o + i * 2 + 1, none⟩ = some (.int .u32 (lab ls i).2)) := fun W hW i hi => HL.out.on hW i (hnn ▸ hi)
  clear hnn HL
  have h1 : ¬ n = 0 := by omega
  have h2 : ¬ (16 : Int) < (n : Int) := by omega
  go_enter Tryz.func7, Tryz.ntmps7
  go_wp2_with fail
  go_loopw [3] (fun iv wr => ∃ k : Nat, k ≤ n ∧ iv = .int .i64 k ∧ Below w.heap.size w wr) (fun iv _ => n - (intOf iv).toNat)
  case atStart => exact ⟨0, Nat.zero_le _, rfl, Below.refl _ _⟩
  case round =>
    obtain ⟨k, hk, rfl, hbw⟩ := hrel
    by_cases hlt : k < n
    · obtain ⟨b, o, rfl, c1, c2⟩ := HLn.out wr hbw k hlt
      have hkk : okL (lab ls k).1 (lab ls k).2 = true := HOK.out k hlt
      have HKK := Lib.hid hkk
      clear hkk
      generalize (lab ls k).1 = r at *
      generalize (lab ls k).2 = cc at *
      go_wp2_with fail
      refine (valid13_yes r cc _ HKK.out).mono ?_
      rintro e w2 ⟨rfl, hb2⟩
      have hb3 : Below w.heap.size w w2 := hbw.trans (hb2.mono hbw.size)
      go_wp2_with fail
      go_roundw
      case rel => exact ⟨k + 1, by omega, by go_num, hb3⟩
      case measure => simp [intOf]; omega
    · obtain rfl : k = n := by omega
      go_wp2_with fail
      go_loopw [4] (fun iv wq => ∃ i : Nat, i ≤ k ∧ iv = .int .i64 i ∧ Below w.heap.size w wq ∧ ∀ x y, x < y → y < i → lab ls x ≠ lab ls y) (fun iv _ => k - (intOf iv).toNat)
      case atStart => exact ⟨0, Nat.zero_le _, rfl, hbw, fun x y _ hy => by omega⟩
      case round =>
        obtain ⟨i, hi, rfl, hbi, hall⟩ := hrel
        have HA := Lib.hid hall
        clear hall hbw
        by_cases hik : i < k
        · go_wp2_with fail
          go_loopw [5] (fun jv wq => ∃ j : Nat, j ≤ i ∧ jv = .int .i64 j ∧ Below w.heap.size w wq ∧ ∀ x, x < j → lab ls x ≠ lab ls i) (fun jv _ => i - (intOf jv).toNat)
          case atStart => exact ⟨0, Nat.zero_le _, rfl, hbi, fun x hx => by omega⟩
          case round =>
            obtain ⟨j, hj, rfl, hbj, hallj⟩ := hrel
            have HB := Lib.hid hallj
            clear hallj hbi
            by_cases hji : j < i
            · obtain ⟨b, o, rfl, x1, x2⟩ := HLn.out wr hbj j (by omega)
              obtain ⟨b', o', e', y1, y2⟩ := HLn.out wr hbj i hik
              simp only [Option.some.injEq, Addr.mk.injEq] at e'
              obtain ⟨rfl, rfl, _⟩ := e'
              by_cases heq : lab ls j = lab ls i
              · have HT := Lib.hid (HTW.out j i hji hik heq)
                rw [heq] at x1 x2
                clear heq
                generalize (lab ls i).1 = r at *
                generalize (lab ls i).2 = cc at *
                go_wp2_with fail
                go_quiet (fail)
                have hb2 : Below w.heap.size w (wr.drewN nq) := hbj.trans ((below_drewN' wr nq).mono hbj.size)
                generalize wr.drewN nq = W2 at *
                clear x1 x2 y1 y2
                go_wp2_with fail
                go_ret
                exact ⟨hb2, .inl ⟨HT.out, rfl⟩⟩
              · have HN : Hid (lab ls j ≠ lab ls i) := heq
                have hne : (((lab ls j).1 == (lab ls i).1) && (((lab ls j).2 : Int) == ((lab ls i).2 : Int))) = false := by
                  cases hx : (((lab ls j).1 == (lab ls i).1) && (((lab ls j).2 : Int) == ((lab ls i).2 : Int)))
                  · rfl
                  · simp only [Bool.and_eq_true, beq_iff_eq] at hx
                    exact absurd (Prod.ext hx.1 (by omega)) heq
                clear heq
                by_cases hr : (lab ls j).1 = (lab ls i).1
                · have hcc : ¬ (((lab ls j).2 : Int) = ((lab ls i).2 : Int)) := fun e => HN.out (Prod.ext hr (by omega))
                  have hcb : ((((lab ls j).2 : Int) == ((lab ls i).2 : Int))) = false := beq_false_of_ne hcc
                  have hcn : (((lab ls j).2 == (lab ls i).2)) = false := beq_false_of_ne (fun e => hcc (by rw [e]))
                  rw [hr] at x1
                  clear hne hr
                  generalize (lab ls i).1 = r at *
                  generalize (lab ls i).2 = cc at *
                  generalize (lab ls j).2 = dd at *
                  go_wp2_with fail
                  go_quiet (fail)
                  have hb2 : Below w.heap.size w (wr.drewN nq) := hbj.trans ((below_drewN' wr nq).mono hbj.size)
                  generalize wr.drewN nq = W2 at *
                  clear x1 x2 y1 y2
                  go_wp2_with fail
                  go_roundw
                  case rel =>
                    refine ⟨j + 1, by omega, by go_num, hb2, fun x hx => ?_⟩
                    by_cases e : x = j
                    · subst e; exact HN.out
                    · exact HB.out x (by omega)
                  case measure => simp [intOf]; omega
                · have hrb : ((lab ls j).1 == (lab ls i).1) = false := beq_false_of_ne hr
                  clear hne
                  generalize (lab ls i).1 = r at *
                  generalize (lab ls i).2 = cc at *
                  generalize (lab ls j).1 = rr at *
                  generalize (lab ls j).2 = dd at *
                  go_wp2_with fail
                  go_quiet (fail)
                  have hb2 : Below w.heap.size w (wr.drewN nq) := hbj.trans ((below_drewN' wr nq).mono hbj.size)
                  generalize wr.drewN nq = W2 at *
                  clear x1 x2 y1 y2
                  go_wp2_with fail
                  go_roundw
                  case rel =>
                    refine ⟨j + 1, by omega, by go_num, hb2, fun x hx => ?_⟩
                    by_cases e : x = j
                    · subst e; exact HN.out
                    · exact HB.out x (by omega)
                  case measure => simp [intOf]; omega
            · obtain rfl : j = i := by omega
              go_wp2_with fail
              go_roundw
              case rel =>
                refine ⟨j + 1, by omega, by go_num, hbj, fun x y hxy hy => ?_⟩
                by_cases e : y = j
                · subst e; exact HB.out x hxy
                · exact HA.out x y hxy (by omega)
              case measure => simp [intOf]; omega
        · obtain rfl : i = k := by omega
          have HN := Lib.hid (HND.out fun x y hxy hy => HA.out x y hxy hy)
          go_wp2_with fail
          go_ret
          exact ⟨hbi, .inr ⟨HN.out, rfl⟩⟩

theorem r2New_ (a : Option Addr) (c : Nat) (ls : List Lab) (w : World) (h : LabsIn w a ls) (hw : allW ls) :
    Calls Tryz.prog 7 #[.slice a ls.length c] w fun e w' => e = .returned (.int .i64 (newErr ls)) ∧ Below w.heap.size w w' := by
  by_cases h0 : ls.length = 0
  · have e : newErr ls = 1 := by unfold newErr; rw [if_pos h0]
    rw [e, h0]
    exact rnew_arg a c w
  · by_cases h1 : 16 < ls.length
    · have e : newErr ls = 2 := by unfold newErr; rw [if_neg h0, if_pos h1]
      rw [e]
      exact rnew_long a _ c w h1
    · cases hok : ls.all okLab
      · have e : newErr ls = 20 := by unfold newErr; rw [if_neg h0, if_neg h1, hok]; rfl
        rw [e]
        exact rnew_label a c ls w h (by omega) (by omega) hw hok
      · refine (rnew_rest a c ls w h (by omega) (by omega) hok).mono ?_
        rintro e w' ⟨hb, ⟨hd, he⟩ | ⟨hd, he⟩⟩
        · have ee : newErr ls = 9 := by unfold newErr; rw [if_neg h0, if_neg h1, hok, if_pos rfl, if_neg hd]
          rw [ee]
          exact ⟨he, hb⟩
        · have ee : newErr ls = 0 := by unfold newErr; rw [if_neg h0, if_neg h1, hok, if_pos rfl, if_pos hd]
          rw [ee]
          exact ⟨he, hb⟩
end Go.Proofs.YtoompephogamaaaGreatDoor
