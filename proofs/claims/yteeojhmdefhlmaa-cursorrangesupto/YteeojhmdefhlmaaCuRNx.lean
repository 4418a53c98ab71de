/- The walk of the document's Next. -/
import Derived.Test.YteeojhmdefhlmaaCuNx
import Derived.Deep.RegionHeld3
namespace Go.Proofs.Yteeojhmdefhlmaa
open Go.RowKit Go.Sort

set_option maxRecDepth 100000 in
set_option maxHeartbeats 1000000 in
theorem rnext_ (s : ByteArray) (w : World) (hs : s.size ≤ 140737488351232) :
    Calls Try.prog 33 #[.string s] w fun e w' => e = .returned (nxtV s.data.toList) ∧ Below w.heap.size w w' := by
  obtain ⟨R, hR⟩ : ∃ R, R = nxtV s.data.toList := ⟨_, rfl⟩
  have HR := Lib.hid hR
  rw [← hR]
  clear hR
  go_enter Try.func33, Try.ntmps33
  go_wp2_with fail
  go_loopw [4] (fun jv wr => ∃ j : Nat, j ≤ s.size ∧ jv = .int .i64 ((j : Int) - 1) ∧ Hid (full (s.data.toList.drop j)) ∧ wr = w) (fun jv _ => (intOf jv + 1).toNat)
  case atStart => exact ⟨s.size, Nat.le_refl _, rfl, by intro x hx; rw [size_list, List.drop_length] at hx; simp at hx, rfl⟩
  case round =>
    obtain ⟨j, hj, rfl, HF, rfl⟩ := hrel
    cases j with
    | zero =>
      have HX : Hid (R = .tuple #[.string ⟨#[]⟩, .bool false]) := by
        show _ = _
        have h0 := HF.out
        rw [List.drop_zero] at h0
        rw [HR.out, nxt_full h0]
      clear HF HR
      go_wp2_with fail
      exact bodyPost_ret (v := .tuple #[.string ⟨#[]⟩, .bool false]) (by simp [results, Try.results33, go_sem]) rfl ⟨by rw [HX.out], Below.refl _ _⟩
    | succ m =>
      have hm : m < s.size := by omega
      have hml : m < s.data.toList.length := by rw [← size_list]; exact hm
      have hsm : s.data.toList[m] = s[m] := rfl
      have em : (((m + 1 : Nat) : Int) - 1) = (m : Int) := by omega
      rw [em]
      by_cases hc : s[m].toNat = 255
      · have hq : ¬ ((s[m].toNat : Nat) : Int) < 255 := by omega
        have HF2 : Hid (full (s.data.toList.drop m)) := full_step hml (by rw [hsm]; exact hc) HF.out
        clear HF hsm HR
        go_wp2_with fail
        go_roundw
        case rel => exact ⟨m, by omega, by go_num, HF2, trivial⟩
        case measure => simp [intOf]
      · have hlt := s[m].toNat_lt
        have hq : ((s[m].toNat : Nat) : Int) < 255 := by omega
        have HX : Hid (R = .tuple #[.string ⟨(s.data.toList.take m ++ [UInt8.ofNat (s[m].toNat + 1)]).toArray⟩, .bool true]) := by
          show _ = _
          rw [HR.out, nxt_here hml (by rw [hsm]; exact hc) HF.out, hsm]
        have hcv : ∀ W : World, (convert 56 9 (.slice (some ⟨W.heap.size, 0, none⟩) 1 1)).run Try.prog (W.alloc (.cells #[.int .u8 ((s[m].toNat : Int) + 1)] 5)) = .ok (.string ⟨#[UInt8.ofNat (s[m].toNat + 1)]⟩) (W.alloc (.cells #[.int .u8 ((s[m].toNat : Int) + 1)] 5)) := fun W => by
          have := conv_ (W.alloc (.cells #[.int .u8 ((s[m].toNat : Int) + 1)] 5)) (some ⟨W.heap.size, 0, none⟩) 1 1 [s[m].toNat + 1] rfl (one_in (by simp [go_sem]))
          exact this
        have HXR : Hid ((s.extract 0 m ++ ⟨#[UInt8.ofNat (s[m].toNat + 1)]⟩ : ByteArray) = ⟨(s.data.toList.take m ++ [UInt8.ofNat (s[m].toNat + 1)]).toArray⟩) := by
          show _ = _
          apply ba_ext
          rw [ba_append, ext_list]
        have hsz : (s.extract 0 m).size ≤ 140737488351232 := by rw [size_list, ext_list, List.length_take, ← size_list]; omega
        have hwr : IntKind.u8.wrap ((s[m].toNat : Int) + 1) = (s[m].toNat : Int) + 1 := by
          show ((s[m].toNat : Int) + 1) % 256 = _
          omega
        have hsz1 : (⟨#[UInt8.ofNat (s[m].toNat + 1)]⟩ : ByteArray).size = 1 := rfl
        clear HF HR hsm
        go_wp2_with fail
        have hA := hcv wr
        have hB : (convert 56 9 (.slice (some ⟨wr.heap.size, 0, none⟩) 1 1)).run Try.prog (wr.drew.alloc (.cells #[.int .u8 ((s[m].toNat : Int) + 1)] 5)) = .ok (.string ⟨#[UInt8.ofNat (s[m].toNat + 1)]⟩) (wr.drew.alloc (.cells #[.int .u8 ((s[m].toNat : Int) + 1)] 5)) := hcv wr.drew
        have hC : (convert 56 9 (.slice (some ⟨wr.heap.size, 0, none⟩) 1 1)).run Try.prog (wr.alloc (.cells #[.int .u8 ((s[m].toNat : Int) + 1)] 5)).drew = .ok (.string ⟨#[UInt8.ofNat (s[m].toNat + 1)]⟩) (wr.alloc (.cells #[.int .u8 ((s[m].toNat : Int) + 1)] 5)).drew := conv_ (wr.alloc (.cells #[.int .u8 ((s[m].toNat : Int) + 1)] 5)).drew (some ⟨wr.heap.size, 0, none⟩) 1 1 [s[m].toNat + 1] rfl ((one_in (by simp [go_sem]) : BytesIn (wr.alloc (.cells #[.int .u8 ((s[m].toNat : Int) + 1)] 5)) (some ⟨wr.heap.size, 0, none⟩) [s[m].toNat + 1]).on (Below.refl _ _).drew)
        clear hcv
        generalize (⟨#[UInt8.ofNat (s[m].toNat + 1)]⟩ : ByteArray) = RR at *
        refine wp_region_noPanic ?_
        go_region_with (fail)
        all_goals (refine NoPanic.normal ?_; go_wp2_with fail)
        all_goals exact bodyPost_ret (v := .tuple #[.string (s.extract 0 m ++ RR), .bool true]) (by simp [results, Try.results33, go_sem]) rfl ⟨by rw [HX.out, HXR.out], by first | exact ((Below.refl _ _).alloc (Nat.le_refl _) _).drew | exact (Below.refl _ _).drew.alloc (Nat.le_refl _) _ | exact (Below.refl _ _).alloc (Nat.le_refl _) _⟩
end Go.Proofs.Yteeojhmdefhlmaa
