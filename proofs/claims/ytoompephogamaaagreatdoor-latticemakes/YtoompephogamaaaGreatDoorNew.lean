/- The walk of lattice.New. -/
import Derived.Test.YtoompephogamaaaGreatDoorCopy
import Derived.Test.YtoompephogamaaaGreatDoorW3
namespace Go.Proofs.YtoompephogamaaaGreatDoor
open Go.RowKit Go.Sort

def okLab (a : Lab) : Bool := okL a.1 a.2
theorem okLab_ok {a : Lab} (h : okLab a = true) : okW a := by
  have := okL_iff.1 h
  exact ⟨by omega, by omega, by omega⟩
/-- The error's number; 0: none. -/
def newErr (ls : List Lab) : Int :=
  if ls.length = 0 then 1 else if 16 < ls.length then 2 else if ls.all okLab then (if ls.Nodup then 0 else 9) else 20

set_option maxHeartbeats 400000 in
theorem new_arg (a : Option Addr) (c : Nat) (w : World) :
    Calls Tryz.prog 6 #[.slice a 0 c] w fun e w' => e = .returned (.tuple #[.pointer none, .iface 49 (.int .i64 1)]) ∧ Below w.heap.size w w' := by
  go_enter Tryz.func6, Tryz.ntmps6
  go_wp2
  go_ret2
  exact ⟨rfl, Below.refl _ _⟩
set_option maxHeartbeats 400000 in
theorem new_long (a : Option Addr) (n c : Nat) (w : World) (h : 16 < n) :
    Calls Tryz.prog 6 #[.slice a n c] w fun e w' => e = .returned (.tuple #[.pointer none, .iface 49 (.int .i64 2)]) ∧ Below w.heap.size w w' := by
  have h0 : ¬ n = 0 := by omega
  have h1 : (16 : Int) < (n : Int) := by omega
  go_enter Tryz.func6, Tryz.ntmps6
  go_wp2
  go_ret2
  exact ⟨rfl, Below.refl _ _⟩

set_option maxHeartbeats 1000000 in
theorem new_label (a : Option Addr) (c : Nat) (ls : List Lab) (w : World) (h : LabsIn w a ls) (h0 : 0 < ls.length) (hn : ls.length ≤ 16) (hw : allW ls) (hb : ls.all okLab = false) :
    Calls Tryz.prog 6 #[.slice a ls.length c] w fun e w' => e = .returned (.tuple #[.pointer none, .iface 49 (.int .i64 20)]) ∧ Below w.heap.size w w' := by
  have HB : Hid (¬ ∀ j, j < ls.length → okLab (lab ls j) = true) := fun hall => by
    have : ls.all okLab = true := List.all_eq_true.2 fun x hx => by
      obtain ⟨j, hj, rfl⟩ := List.mem_iff_getElem.1 hx
      have := hall j hj
      unfold lab at this
      rw [List.getD_eq_getElem?_getD, List.getElem?_eq_getElem hj] at this
      exact this
    rw [this] at hb; cases hb
  have HL := Lib.hid h
  have HW : Hid (∀ i, (lab ls i).2 < 4294967296) := lab_lt hw
  clear h hb hw
  obtain ⟨n, hnn⟩ : ∃ n, ls.length = n := ⟨_, rfl⟩
  rw [hnn] at h0 hn HB ⊢
  have HLn : Hid (∀ W, Below w.heap.size w W → ∀ i, i < n → ∃ b o, a = some ⟨b, o, none⟩ ∧ W.cell? ⟨b, o + i * 2, none⟩ = some (.int .i64 (lab ls i).1) ∧ W.cell? ⟨b, o + i * 2 + 1, none⟩ = some (.int .u32 (lab ls i).2)) := fun W hW i hi => HL.out.on hW i (hnn ▸ hi)
  clear hnn HL
  have h1 : ¬ n = 0 := by omega
  have h2 : ¬ (16 : Int) < (n : Int) := by omega
  go_enter Tryz.func6, Tryz.ntmps6
  go_wp2_with fail
  go_loopw [22] (fun iv wr => ∃ k : Nat, k ≤ n ∧ iv = .int .i64 k ∧ Below w.heap.size w wr ∧ ∀ j, j < k → okLab (lab ls j) = true) (fun iv _ => n - (intOf iv).toNat)
  case atStart => exact ⟨0, Nat.zero_le _, rfl, Below.refl _ _, fun j hj => by omega⟩
  case round =>
    obtain ⟨k, hk, rfl, hbw, hall⟩ := hrel
    have HA := Lib.hid hall
    clear hall
    by_cases hlt : k < n
    · obtain ⟨b, o, rfl, c1, c2⟩ := HLn.out wr hbw k hlt
      have hcc := HW.out k
      have HV : Hid (okLab (lab ls k) = okL (lab ls k).1 (lab ls k).2) := rfl
      generalize (lab ls k).1 = r at *
      generalize (lab ls k).2 = cc at *
      cases hok : okL r cc
      · go_wp2_with fail
        refine (valid12_no r cc _ hcc hok).mono ?_
        rintro e w2 ⟨rfl, hb2⟩
        have hb3 : Below w.heap.size w w2 := (hbw.alloc hbw.size _).trans (hb2.mono (by have := hbw.size; simp; omega))
        go_wp2_with fail
        go_ret2
        exact ⟨rfl, hb3⟩
      · go_wp2_with fail
        refine (valid12_yes r cc _ hok).mono ?_
        rintro e w2 ⟨rfl, hb2⟩
        have hb3 : Below w.heap.size w w2 := (hbw.alloc hbw.size _).trans (hb2.mono (by have := hbw.size; simp; omega))
        have HK := Lib.hid hok
        clear hok
        go_wp2_with fail
        go_roundw
        case rel =>
          refine ⟨k + 1, by omega, by go_num, hb3, fun j hj => ?_⟩
          by_cases e : j = k
          · subst e; rw [HV.out]; exact HK.out
          · exact HA.out j (by omega)
        case measure => simp [intOf]; omega
    · exact absurd (fun j hj => HA.out j (by omega)) HB.out
end Go.Proofs.YtoompephogamaaaGreatDoor
