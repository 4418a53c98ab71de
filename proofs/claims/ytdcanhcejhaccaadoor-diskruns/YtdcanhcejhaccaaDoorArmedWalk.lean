/- The walk of the law DiskArmed. -/
import Derived.Test.YtdcanhcejhaccaaDoorDAs
namespace Go.Proofs.YtdcanhcejhaccaaDoor
open Go.RowKit Go.Sort Go.Maps

theorem num_ (n : Nat) (w : World) (hg : ErrType w) : Calls Tryd.prog 8 #[errE n] w fun e w' => e = .returned (.int .i64 n) ∧ Below w.heap.size w w' := by
  unfold errE
  by_cases h : n = 0
  · subst h; rw [if_pos rfl]; exact num11_nil w
  · rw [if_neg h]; exact num11 n w hg
theorem mod_at (q : Int) (hq : 0 < q) (hq2 : q ≤ 1000) (k : Int) : ∃ m : Nat, wrap64 ((IntKind.u64.wrap k).tmod q) = (m : Int) ∧ (m : Int) < q := by
  have h0 : 0 ≤ IntKind.u64.wrap k := by simp [IntKind.wrap, IntKind.bits, IntKind.signed]; omega
  generalize IntKind.u64.wrap k = m at *
  rw [Int.tmod_eq_emod_of_nonneg h0]
  have h1 := Int.emod_nonneg m (show q ≠ 0 by omega)
  have h2 := Int.emod_lt_of_pos m hq
  generalize m % q = r at *
  refine ⟨r.toNat, ?_, by omega⟩
  have : wrap64 r = r := by simp [wrap64]; omega
  rw [this]; omega
/-- The device of the law when i writes were tried. -/
structure ArmD (d : Dev) (k i : Nat) : Prop where
  r : d.r = 1
  s : d.s = 4
  armed : d.armed = true
  crashed : d.crashed = decide (k < i)
  left : i ≤ k → d.left = (k : Int) - i
theorem arm_start (k : Nat) : ArmD { newD 1 4 with armed := true, left := (k : Int) } k 0 := ⟨rfl, rfl, rfl, by simp [newD], fun _ => by simp⟩
theorem arm_has {d : Dev} {k i : Nat} (h : ArmD d k i) (s : Nat) (hs : s < 4) : hasD d (0, (s : Int)) := by
  unfold hasD; rw [h.r, h.s]; simp only; omega
theorem arm_err {d : Dev} {k i : Nat} (h : ArmD d k i) (s : Nat) (hs : s < 4) : wErr d (0, (s : Int)) 1 = if i < k then 0 else 60 := by
  unfold wErr
  rw [if_neg (fun e => e (arm_has h s hs)), if_neg (by omega), h.crashed]
  by_cases h1 : k < i
  · rw [if_pos (by simp [h1]), if_neg (by omega)]
  · rw [if_neg (by simp [h1])]
    have hl := h.left (by omega)
    by_cases h2 : i = k
    · rw [if_pos ⟨h.armed, by rw [hl]; omega⟩, if_neg (by omega)]
    · rw [if_neg (fun e => by rw [hl] at e; omega), if_pos (by omega)]
theorem arm_step {d : Dev} {k i : Nat} (h : ArmD d k i) (s : Nat) (hs : s < 4) (xs : List Nat) (hx : xs.length ≤ 64) : ArmD (writeD d (0, (s : Int)) xs) k (i + 1) := by
  unfold writeD
  by_cases h1 : k < i
  · rw [if_pos (.inr (.inr (by rw [h.crashed]; simp [h1])))]
    exact ⟨h.r, h.s, h.armed, by rw [h.crashed]; simp; omega, fun h2 => by omega⟩
  · have hc : d.crashed = false := by rw [h.crashed]; simp; omega
    rw [if_neg (fun e => by rcases e with e | e | e; exact e (arm_has h s hs); omega; rw [hc] at e; cases e)]
    have hl := h.left (by omega)
    refine ⟨h.r, h.s, h.armed, ?_, fun h2 => ?_⟩
    · show (d.crashed || (d.armed && decide (d.left = 0))) = _
      rw [hc, h.armed, hl]
      simp; omega
    · show (if d.armed = true ∧ d.left ≠ 0 then d.left - 1 else d.left) = _
      rw [if_pos ⟨h.armed, by rw [hl]; omega⟩, hl]
      omega
set_option maxRecDepth 100000 in
set_option maxHeartbeats 8000000 in
theorem armed_ (n many : Int) (w : World) (hE : ErrType w) :
    Calls Tryd.prog 5 #[.int .i64 n, .int .i64 many] w fun e w' => e = .returned (.bool true) ∧ Below w.heap.size w w' := by
  have kc := fun (w : World) (C : Array Value) (n c : Nat) => Lib.run_convert_bytes_const (P := Tryd.prog) w 39 5 C n c Tryd.underlying39 Tryd.underlying5
  obtain ⟨k, hk, hk20⟩ := mod_at 20 (by omega) (by omega) n
  have HN := Lib.hid (new_ 1 4 w (by omega))
  have HE := Lib.hid hE
  have hk0 : (0 : Int) ≤ (k : Int) := by omega
  clear hE
  go_enter Tryd.func5, Tryd.ntmps5
  go_wp2_with fail
  refine HN.out.mono ?_
  rintro e w1 ⟨rfl, hb1, hd1⟩
  have HB1 := Lib.hid hb1
  have HA : Hid (Calls Tryd.prog 23 #[.pointer (some ⟨w.heap.size + 2, 0, none⟩), .int .i64 k] w1 fun e w' => e = .returned .nilIface ∧ DevIn w' (w.heap.size + 2) w.heap.size (w.heap.size + 1) { newD 1 4 with armed := true, left := (k : Int) } 0 ∧ Fd (w.heap.size + 2) w.heap.size (w.heap.size + 1) w1 w') := arm_ hd1 k (by omega) (by omega)
  clear hb1 hd1 HN
  unfold pt
  go_wp2_with fail
  refine HA.out.mono ?_
  rintro e w2 ⟨rfl, hd2, hf2⟩
  have HB2 := Lib.hid (below_step' HB1.out hf2)
  have HD2 := Lib.hid hd2
  clear hd2 hf2 HA HB1
  go_wp2_with fail
  go_loopw [8, 9] (fun iv _ wr => ∃ i : Nat, iv = .int .i64 i ∧ i ≤ 25 ∧ Hid (∃ d, DevIn wr (w.heap.size + 2) w.heap.size (w.heap.size + 1) d i ∧ ArmD d k i ∧ Below w.heap.size w wr)) (fun iv _ _ => 25 - (intOf iv).toNat)
  case atStart => exact ⟨0, rfl, by omega, ⟨_, HD2.out, arm_start k, HB2.out⟩⟩
  case round =>
    obtain ⟨i, rfl, hi, HI⟩ := hrel
    by_cases hlt : i < 25
    · have hlt' : decide ((i : Int) < 25) = true := decide_eq_true (by omega)
      obtain ⟨d, hd, hA, hb⟩ := HI.out
      obtain ⟨s, hs, hs4⟩ := mod_at 4 (by omega) (by omega) (wrap64 (many + (i : Int)))
      have hs4' : s < 4 := by omega
      have HW : Hid (Calls Tryd.prog 17 #[.pointer (some ⟨w.heap.size + 2, 0, none⟩), .int .i64 0, .int .i64 (s : Int), .slice (some ⟨wr.heap.size, 0, none⟩) 1 1] (wr.alloc (.cells #[.int .u8 120] 5 (1, 2))) fun e w' => e = .returned (errE (if i < k then 0 else 60)) ∧ DevIn w' (w.heap.size + 2) w.heap.size (w.heap.size + 1) (writeD d (0, (s : Int)) [120]) (i + 1) ∧ Fd (w.heap.size + 2) w.heap.size (w.heap.size + 1) (wr.alloc (.cells #[.int .u8 120] 5 (1, 2))) w') :=
        (write_ (hd.on (below_alloc wr _)) (0, (s : Int)) (some ⟨wr.heap.size, 0, none⟩) [120] 1 1 (bytes_new wr [120] (1, 2)) rfl (by decide) (by omega)).mono fun e w' ⟨h1, h2⟩ => ⟨h1.trans (by rw [arm_err hA s hs4']), h2⟩
      have HA' := Lib.hid (arm_step hA s hs4' [120] (by decide))
      have HBV := Lib.hid (below_step hb (below_alloc wr (.cells #[.int .u8 120] 5 (1, 2))))
      clear hd hA hb HI HD2 HB2
      by_cases hik : i < k
      · have q1 : decide ((i : Int) < (k : Int)) = true := decide_eq_true (by omega)
        have q2 : decide ((i : Int) ≥ (k : Int)) = false := decide_eq_false (by omega)
        rw [if_pos hik] at HW
        replace HW : Hid (Calls Tryd.prog 17 #[.pointer (some ⟨w.heap.size + 2, 0, none⟩), .int .i64 0, .int .i64 (s : Int), .slice (some ⟨wr.heap.size, 0, none⟩) 1 1] (wr.alloc (.cells #[.int .u8 120] 5 (1, 2))) fun e w' => e = .returned .nilIface ∧ DevIn w' (w.heap.size + 2) w.heap.size (w.heap.size + 1) (writeD d (0, (s : Int)) [120]) (i + 1) ∧ Fd (w.heap.size + 2) w.heap.size (w.heap.size + 1) (wr.alloc (.cells #[.int .u8 120] 5 (1, 2))) w') := HW
        go_wp2_with fail
        generalize wr.alloc (.cells #[.int .u8 120] 5 (1, 2)) = V at *
        refine HW.out.mono ?_
        rintro e w3 ⟨rfl, hd3, hf3⟩
        have hc : (writeD d (0, (s : Int)) [120]).crashed = false := by rw [HA'.out.crashed]; simp; omega
        have HC := crashed_ hd3
        rw [hc] at HC
        have HCr := Lib.hid HC
        have HB3 := Lib.hid (below_step' HBV.out hf3)
        have HD3 := Lib.hid hd3
        clear HC hc hd3 hf3 HW HBV
        go_wp2_with fail
        refine HCr.out.mono ?_
        rintro e w4 ⟨rfl, rfl⟩
        go_wp2_with fail
        go_roundw
        case rel => exact ⟨i + 1, by go_num, by omega, ⟨_, HD3.out, HA'.out, HB3.out⟩⟩
        case measure => simp [intOf]; omega
      · have q1 : decide ((i : Int) < (k : Int)) = false := decide_eq_false (by omega)
        have q2 : decide ((i : Int) ≥ (k : Int)) = true := decide_eq_true (by omega)
        rw [if_neg hik] at HW
        replace HW : Hid (Calls Tryd.prog 17 #[.pointer (some ⟨w.heap.size + 2, 0, none⟩), .int .i64 0, .int .i64 (s : Int), .slice (some ⟨wr.heap.size, 0, none⟩) 1 1] (wr.alloc (.cells #[.int .u8 120] 5 (1, 2))) fun e w' => e = .returned (.iface 62 (.int .i64 60)) ∧ DevIn w' (w.heap.size + 2) w.heap.size (w.heap.size + 1) (writeD d (0, (s : Int)) [120]) (i + 1) ∧ Fd (w.heap.size + 2) w.heap.size (w.heap.size + 1) (wr.alloc (.cells #[.int .u8 120] 5 (1, 2))) w') := HW
        go_wp2_with fail
        generalize wr.alloc (.cells #[.int .u8 120] 5 (1, 2)) = V at *
        refine HW.out.mono ?_
        rintro e w3 ⟨rfl, hd3, hf3⟩
        have hc : (writeD d (0, (s : Int)) [120]).crashed = true := by rw [HA'.out.crashed]; simp; omega
        have HC := crashed_ hd3
        rw [hc] at HC
        have HCr := Lib.hid HC
        have HB3 := Lib.hid (below_step' HBV.out hf3)
        have HD3 := Lib.hid hd3
        have HNm := Lib.hid (num11 60 w3 (HE.out.on HB3.out))
        clear HC hc hd3 hf3 HW HBV
        go_wp2_with fail
        refine HCr.out.mono ?_
        rintro e w4 ⟨rfl, rfl⟩
        go_wp2_with fail
        refine HNm.out.mono ?_
        rintro e w5 ⟨rfl, hb5⟩
        have HE5 := Lib.hid (And.intro (HD3.out.on hb5) (below_step HB3.out hb5))
        clear hb5 HNm HCr
        go_wp2_with fail
        go_roundw
        case rel => exact ⟨i + 1, by go_num, by omega, ⟨_, HE5.out.1, HA'.out, HE5.out.2⟩⟩
        case measure => simp [intOf]; omega
    · obtain rfl : i = 25 := by omega
      have hlt' : decide (((25 : Nat) : Int) < 25) = false := decide_eq_false (by omega)
      obtain ⟨d, hd, hA, hb⟩ := HI.out
      have hcr : d.crashed = true := by rw [hA.crashed]; simp; omega
      have hh0 : hasD d (0, 0) := arm_has hA 0 (by omega)
      have HR : Hid (Calls Tryd.prog 19 #[.pointer (some ⟨w.heap.size + 2, 0, none⟩), .int .i64 0, .int .i64 0] wr fun e w' => e = .returned (.tuple #[.slice none 0 0, .iface 62 (.int .i64 60)]) ∧ Below wr.heap.size wr w') := read_crashed hd (0, 0) hh0 hcr
      have HB := Lib.hid hb
      have HD := Lib.hid hd
      have HA' := Lib.hid (And.intro hA hcr)
      clear hd hA hb HI HD2 HB2 hcr hh0
      go_wp2_with fail
      refine HR.out.mono ?_
      rintro e w3 ⟨rfl, hb3⟩
      have hd3 := HD.out.on hb3
      have HB3 := Lib.hid (below_step HB.out hb3)
      have HS : Hid (Calls Tryd.prog 22 #[.pointer (some ⟨w.heap.size + 2, 0, none⟩), .int .i64 0] w3 fun e w' => e = .returned (.iface 62 (.int .i64 60)) ∧ w' = w3) := sync_crashed hd3 0 ⟨by omega, by rw [HA'.out.1.r]; omega⟩ HA'.out.2
      have HRs : Hid (Calls Tryd.prog 16 #[.pointer (some ⟨w.heap.size + 2, 0, none⟩), .slice none 0 0] w3 fun e w' => e = .returned (.tuple #[]) ∧ DevIn w' (w.heap.size + 2) w.heap.size (w.heap.size + 1) (restartD d []) 25 ∧ Fd (w.heap.size + 2) w.heap.size (w.heap.size + 1) w3 w') := restart_ hd3 none [] 0 0 rfl (intsIn_nil _ _) (fun b o e => by cases e) (by omega)
      clear hd3 hb3 HR HB HD
      go_wp2_with fail
      refine HS.out.mono ?_
      rintro e w3' ⟨rfl, rfl⟩
      go_wp2_with fail
      refine HRs.out.mono ?_
      rintro e w4 ⟨rfl, hd4, hf4⟩
      have HB4 := Lib.hid (below_step' HB3.out hf4)
      have hh4 : hasD (restartD d []) (0, 0) := by have := arm_has HA'.out.1 0 (by omega); exact this
      have HR : Hid (Calls Tryd.prog 19 #[.pointer (some ⟨w.heap.size + 2, 0, none⟩), .int .i64 0, .int .i64 0] w4 fun e w' => ∃ g, e = .returned (.tuple #[.slice (some ⟨g, 0, none⟩) 64 64, .nilIface]) ∧ Below w4.heap.size w4 w') := (read_ok hd4 (0, 0) hh4 rfl).mono fun e w' ⟨g, h1, _, _, h4⟩ => ⟨g, h1, h4⟩
      have HD4 := Lib.hid (And.intro hd4 hh4)
      clear hd4 hf4 HS HRs HB3 hh4
      go_wp2_with fail
      refine HR.out.mono ?_
      rintro e w5 ⟨g, rfl, hb5⟩
      have HB5 := Lib.hid (below_step HB4.out hb5)
      have HD5 := Lib.hid (HD4.out.1.on hb5)
      have HNm := Lib.hid (num11 60 w5 (HE.out.on HB5.out))
      clear HR HB4 hb5
      go_wp2_with fail
      refine HNm.out.mono ?_
      rintro e w6 ⟨rfl, hb6⟩
      have HB6 := Lib.hid (below_step HB5.out hb6)
      have HD6 := Lib.hid (HD5.out.on hb6)
      have HNm := Lib.hid (num11 60 w6 (HE.out.on HB6.out))
      clear HB5 HD5 hb6
      go_wp2_with fail
      refine HNm.out.mono ?_
      rintro e w7 ⟨rfl, hb7⟩
      have HB7 := Lib.hid (below_step HB6.out hb7)
      have hd7 := HD6.out.on hb7
      have HC : Hid (Calls Tryd.prog 11 #[.pointer (some ⟨w.heap.size + 2, 0, none⟩)] w7 fun e w' => e = .returned (.bool false) ∧ w' = w7) := crashed_ hd7
      have he : wErr (restartD d []) (0, 0) 0 = 0 := by
        unfold wErr
        rw [if_neg (fun e => e HD4.out.2), if_neg (by omega)]
        simp [restartD]
      have HW : Hid (Calls Tryd.prog 17 #[.pointer (some ⟨w.heap.size + 2, 0, none⟩), .int .i64 0, .int .i64 0, .slice none 0 0] w7 fun e w' => e = .returned .nilIface ∧ Below w.heap.size w w') :=
        (write_ hd7 (0, 0) none [] 0 0 (bytesIn_nil _ _) rfl (fun x hx => by simp at hx) (by omega)).mono fun e w' ⟨h1, _, h3⟩ => ⟨h1.trans (by rw [he]; rfl), below_step' HB7.out h3⟩
      clear hd7 he HB6 HD6 hb7 HNm HD4
      go_wp2_with fail
      refine HC.out.mono ?_
      rintro e w7' ⟨rfl, rfl⟩
      go_wp2_with fail
      refine HW.out.mono ?_
      rintro e w8 ⟨rfl, hb8⟩
      have HB8 := Lib.hid hb8
      clear hb8 HW HC HB7
      go_wp2_with fail
      refine (sure_ w8).mono ?_
      rintro e w9 ⟨rfl, hb9⟩
      have HB9 := Lib.hid (below_step HB8.out hb9)
      clear hb9 HB8
      go_wp2_with fail
      go_ret
      exact ⟨rfl, HB9.out⟩
end Go.Proofs.YtdcanhcejhaccaaDoor
