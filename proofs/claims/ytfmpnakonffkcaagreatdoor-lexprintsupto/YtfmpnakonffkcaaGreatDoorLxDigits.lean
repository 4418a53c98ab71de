/- The walk of the document's Digits. -/
import Derived.Test.YtfmpnakonffkcaaGreatDoorLxPrint
namespace Go.Proofs.YtfmpnakonffkcaaGreatDoor
open Go.RowKit Go.Sort

def strOf : Value → ByteArray | .string s => s | _ => ⟨#[]⟩
/-- One digit of the ten. -/
theorem digit_at {d : Nat} (h : d < 10) : (⟨#[48, 49, 50, 51, 52, 53, 54, 55, 56, 57]⟩ : ByteArray).extract d (d + 1) = ⟨#[UInt8.ofNat (48 + d)]⟩ := by
  have key : ∀ m : Nat, m < 10 → (⟨#[48, 49, 50, 51, 52, 53, 54, 55, 56, 57]⟩ : ByteArray).extract m (m + 1) = ⟨#[UInt8.ofNat (48 + m)]⟩ := by decide +kernel
  exact key d h
theorem cons_ba (c : UInt8) (l : List UInt8) : (⟨#[c]⟩ ++ ⟨l.toArray⟩ : ByteArray) = ⟨(c :: l).toArray⟩ := by
  apply ba_ext; rw [ba_append]; simp
theorem nil_ba (s : ByteArray) : (⟨#[]⟩ ++ s : ByteArray) = s := by
  apply ba_ext; rw [ba_append]; simp
set_option maxHeartbeats 1000000 in
theorem dig_neg (n : Int) (w : World) (h : n < 0) (hn : inI n) : Calls Tryz.prog 50 #[.int .i64 n] w fun e w' => e = .returned (.string ⟨(Lib.itoa n).toArray⟩) ∧ w' = w := by
  have h1 := hn.1; have h2 := hn.2
  obtain ⟨U, hU⟩ : ∃ U : Nat, n.natAbs = U := ⟨_, rfl⟩
  have hU2 : U < 10000000000000000000 := by omega
  have HI : Hid (Lib.itoa n = 45 :: Lib.decDigits U) := by
    show _ = _
    rw [← hU]; unfold Lib.itoa; rw [if_pos h]
  have hx : IntKind.u64.wrap (-IntKind.u64.wrap n) = (U : Int) := by simp [IntKind.wrap, IntKind.bits, IntKind.signed]; omega
  rw [HI.out]
  clear HI
  go_enter Tryz.func50, Tryz.ntmps50
  go_wp2_with fail
  go_loopw [3, 5] (fun xv sv wr => ∃ (X : Nat) (L : List UInt8), X ≤ U ∧ L.length ≤ 40 ∧ Hid (Lib.decDigits U = Lib.decDigits X ++ L) ∧ xv = .int .u64 X ∧ sv = .string ⟨L.toArray⟩ ∧ wr = w) (fun xv _ _ => (intOf xv).toNat)
  case atStart => exact ⟨U, [], Nat.le_refl _, by simp, by simp [Hid], by simp, rfl, rfl⟩
  case round =>
    obtain ⟨X, L, hX, hL, HD, rfl, rfl, rfl⟩ := hrel
    have hd := Nat.mod_lt X (show 0 < 10 by decide)
    by_cases h10 : X < 10
    · go_wp2_with fail
      go_ret
      refine ⟨?_, rfl⟩
      have e : (({ data := #[45] } : ByteArray) ++ (({ data := #[48, 49, 50, 51, 52, 53, 54, 55, 56, 57] } : ByteArray).extract (X % 10) (X % 10 + 1) ++ { data := L.toArray }) : ByteArray) = ⟨(45 :: Lib.decDigits U).toArray⟩ := by
        rw [digit_at hd, cons_ba, cons_ba, HD.out, dec_last h10, Nat.mod_eq_of_lt h10]
        rfl
      exact congrArg (fun x => Ending.returned (Value.string x)) e
    · go_wp2_with fail
      have HD2 : Lib.decDigits U = Lib.decDigits (X / 10) ++ (UInt8.ofNat (48 + X % 10) :: L) := by rw [HD.out, dec_step h10, List.append_assoc]; rfl
      have hlen : (UInt8.ofNat (48 + X % 10) :: L).length ≤ 40 := by
        have h3 := congrArg List.length HD2
        rw [List.length_append, Lib.decDigits_length] at h3
        have := nDigits_lt hU2
        omega
      refine ⟨⟨X / 10, UInt8.ofNat (48 + X % 10) :: L, by omega, hlen, HD2, by simp, ?_, trivial⟩, by simp [intOf]; omega⟩
      rw [digit_at hd, cons_ba]
set_option maxHeartbeats 1000000 in
theorem dig_pos (n : Int) (w : World) (h : ¬ n < 0) (hn : inI n) : Calls Tryz.prog 50 #[.int .i64 n] w fun e w' => e = .returned (.string ⟨(Lib.itoa n).toArray⟩) ∧ w' = w := by
  have h1 := hn.1; have h2 := hn.2
  obtain ⟨U, hU⟩ : ∃ U : Nat, n.toNat = U := ⟨_, rfl⟩
  have hU2 : U < 10000000000000000000 := by omega
  have HI : Hid (Lib.itoa n = Lib.decDigits U) := by
    show _ = _
    rw [← hU]; unfold Lib.itoa; rw [if_neg h]
  have hx : IntKind.u64.wrap n = (U : Int) := by simp [IntKind.wrap, IntKind.bits, IntKind.signed]; omega
  rw [HI.out]
  clear HI
  go_enter Tryz.func50, Tryz.ntmps50
  go_wp2_with fail
  go_loopw [3, 5] (fun xv sv wr => ∃ (X : Nat) (L : List UInt8), X ≤ U ∧ L.length ≤ 40 ∧ Hid (Lib.decDigits U = Lib.decDigits X ++ L) ∧ xv = .int .u64 X ∧ sv = .string ⟨L.toArray⟩ ∧ wr = w) (fun xv _ _ => (intOf xv).toNat)
  case atStart => exact ⟨U, [], Nat.le_refl _, by simp, by simp [Hid], by simp, rfl, rfl⟩
  case round =>
    obtain ⟨X, L, hX, hL, HD, rfl, rfl, rfl⟩ := hrel
    have hd := Nat.mod_lt X (show 0 < 10 by decide)
    by_cases h10 : X < 10
    · go_wp2_with fail
      go_ret
      refine ⟨?_, rfl⟩
      have e : (({ data := #[] } : ByteArray) ++ (({ data := #[48, 49, 50, 51, 52, 53, 54, 55, 56, 57] } : ByteArray).extract (X % 10) (X % 10 + 1) ++ { data := L.toArray }) : ByteArray) = ⟨(Lib.decDigits U).toArray⟩ := by
        rw [digit_at hd, cons_ba, nil_ba, HD.out, dec_last h10, Nat.mod_eq_of_lt h10]
        rfl
      exact congrArg (fun x => Ending.returned (Value.string x)) e
    · go_wp2_with fail
      have HD2 : Lib.decDigits U = Lib.decDigits (X / 10) ++ (UInt8.ofNat (48 + X % 10) :: L) := by rw [HD.out, dec_step h10, List.append_assoc]; rfl
      have hlen : (UInt8.ofNat (48 + X % 10) :: L).length ≤ 40 := by
        have h3 := congrArg List.length HD2
        rw [List.length_append, Lib.decDigits_length] at h3
        have := nDigits_lt hU2
        omega
      refine ⟨⟨X / 10, UInt8.ofNat (48 + X % 10) :: L, by omega, hlen, HD2, by simp, ?_, trivial⟩, by simp [intOf]; omega⟩
      rw [digit_at hd, cons_ba]
theorem digits_ (n : Int) (w : World) (hn : inI n) : Calls Tryz.prog 50 #[.int .i64 n] w fun e w' => e = .returned (.string ⟨(Lib.itoa n).toArray⟩) ∧ w' = w := by
  by_cases h : n < 0
  · exact dig_neg n w h hn
  · exact dig_pos n w h hn
end Go.Proofs.YtfmpnakonffkcaaGreatDoor
