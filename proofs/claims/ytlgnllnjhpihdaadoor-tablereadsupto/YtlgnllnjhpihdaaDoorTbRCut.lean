/- The walk of the document's cut. -/
import Derived.Test.YtlgnllnjhpihdaaDoorTbGuess
namespace Go.Proofs.YtlgnllnjhpihdaaDoor
open Go.RowKit Go.Sort

theorem part_eq (s p : ByteArray) (i : Nat) (hi : i + p.size ≤ s.size) : ((s.extract i (i + p.size)).toList == p.toList) = Lib.occAt (lst s) (lst p) i := by
  rw [toList_lst, toList_lst, Lib.occAt_iff_take (lst s) (lst p) i (by rw [← size_lst, ← size_lst]; exact hi)]
  have : lst (s.extract i (i + p.size)) = ((lst s).drop i).take (lst p).length := by
    show (s.extract i (i + p.size)).data.toList = _
    rw [Lib.extract_data, size_lst p, Nat.add_sub_cancel_left]; rfl
  rw [this]
theorem cut_at {s p : ByteArray} {i : Nat} (hi : i + p.size ≤ s.size) (h : ∀ j, j < i → Lib.occAt (lst s) (lst p) j = false) (h1 : Lib.occAt (lst s) (lst p) i = true) :
    ofL (Lib.cut (lst s) (lst p)).1 = s.extract 0 i ∧ ofL (Lib.cut (lst s) (lst p)).2.1 = s.extract (i + p.size) s.size ∧ (Lib.cut (lst s) (lst p)).2.2 = true := by
  have hx := Lib.index_first (s := lst s) (sub := lst p) (i := i) (by rw [← size_lst]; omega) h1 h
  unfold Lib.cut
  rw [hx, if_pos (by omega)]
  simp only [Int.toNat_natCast]
  refine ⟨lst_inj ?_, lst_inj ?_, trivial⟩
  · rw [lst_ofL]
    show _ = (s.extract 0 i).data.toList
    rw [Lib.extract_data]; rfl
  · rw [lst_ofL]
    show _ = (s.extract (i + p.size) s.size).data.toList
    rw [Lib.extract_to_end, ← size_lst p]; rfl
theorem cut_none {s p : ByteArray} {i : Nat} (hp : 0 < p.size) (hi : ¬ i + p.size ≤ s.size) (h : ∀ j, j < i → Lib.occAt (lst s) (lst p) j = false) :
    ofL (Lib.cut (lst s) (lst p)).1 = s ∧ ofL (Lib.cut (lst s) (lst p)).2.1 = ⟨#[]⟩ ∧ (Lib.cut (lst s) (lst p)).2.2 = false := by
  have hx : Lib.index (lst s) (lst p) = -1 := Lib.index_none fun j _ => by
    rcases Nat.lt_or_ge j i with hl | hl
    · exact h j hl
    · cases e : Lib.occAt (lst s) (lst p) j with
      | false => rfl
      | true =>
        rcases Lib.occAt_room e with h1 | h1
        · have e1 := size_lst s
          have e2 := size_lst p
          omega
        · have e2 := size_lst p
          rw [h1, List.length_nil] at e2
          omega
  unfold Lib.cut
  rw [hx, if_neg (by omega)]
  exact ⟨ofL_lst s, rfl, rfl⟩
set_option maxRecDepth 100000 in
set_option maxHeartbeats 1000000 in
theorem rcut_ (s p : ByteArray) (w : World) (hp : 0 < p.size) (hp2 : p.size ≤ 100) (hs : s.size ≤ 140737488355328) :
    Calls Tryd.prog 40 #[.string s, .string p] w fun e w' => e = .returned (.tuple #[.string (ofL (Lib.cut (lst s) (lst p)).1), .string (ofL (Lib.cut (lst s) (lst p)).2.1), .bool (Lib.cut (lst s) (lst p)).2.2]) ∧ Below w.heap.size w w' := by
  have HPe : Hid (∀ i, i + p.size ≤ s.size → ((s.extract i (i + p.size)).toList == p.toList) = Lib.occAt (lst s) (lst p) i) := fun i hi => part_eq s p i hi
  have HAt : Hid (∀ i, i + p.size ≤ s.size → (∀ j, j < i → Lib.occAt (lst s) (lst p) j = false) → Lib.occAt (lst s) (lst p) i = true → ofL (Lib.cut (lst s) (lst p)).1 = s.extract 0 i ∧ ofL (Lib.cut (lst s) (lst p)).2.1 = s.extract (i + p.size) s.size ∧ (Lib.cut (lst s) (lst p)).2.2 = true) := fun i hi h h1 => cut_at hi h h1
  have HNo : Hid (∀ i, ¬ i + p.size ≤ s.size → (∀ j, j < i → Lib.occAt (lst s) (lst p) j = false) → ofL (Lib.cut (lst s) (lst p)).1 = s ∧ ofL (Lib.cut (lst s) (lst p)).2.1 = ⟨#[]⟩ ∧ (Lib.cut (lst s) (lst p)).2.2 = false) := fun i hi h => cut_none hp hi h
  generalize ofL (Lib.cut (lst s) (lst p)).1 = A at *
  generalize ofL (Lib.cut (lst s) (lst p)).2.1 = B at *
  generalize (Lib.cut (lst s) (lst p)).2.2 = ok at *
  generalize Lib.occAt (lst s) (lst p) = oc at *
  obtain ⟨n, hn⟩ : ∃ n, s.size = n := ⟨_, rfl⟩
  obtain ⟨m, hm⟩ : ∃ m, p.size = m := ⟨_, rfl⟩
  rw [hn, hm] at HPe HAt HNo
  rw [hn] at hs
  rw [hm] at hp hp2
  go_enter Tryd.func40, Tryd.ntmps40
  go_wp2_with fail
  go_loopw [7] (fun iv wr => ∃ i : Nat, i ≤ n + 1 ∧ iv = .int .i64 i ∧ wr = w ∧ Hid (∀ j, j < i → oc j = false)) (fun iv _ => n + 1 - (intOf iv).toNat)
  case atStart => exact ⟨0, Nat.zero_le _, rfl, rfl, fun j hj => by omega⟩
  case round =>
    obtain ⟨i, hi, rfl, rfl, HV⟩ := hrel
    by_cases hlt : i + m ≤ n
    · have hlt2 : (i : Int) + (m : Int) ≤ (n : Int) := by omega
      have hPe := HPe.out i hlt
      have hd0 : (0 : Int) ≤ (i : Int) := by omega
      have hd1 : (i : Int) ≤ (i : Int) + (m : Int) := by omega
      have hi63 : i + m < 9223372036854775808 := by omega
      cases ho : oc i with
      | true =>
        have HF := Lib.hid (HAt.out i hlt HV.out ho)
        rw [ho] at hPe
        clear HV HAt HNo HPe ho
        go_wp2_with fail
        go_quiet (fail)
        go_wp2_with fail
        refine bodyPost_ret (v := .tuple #[.string (s.extract 0 i), .string (s.extract (i + m) n), .bool true]) ?_ rfl ⟨?_, ⟨rfl, rfl, rfl, Nat.le_refl _, fun _ _ => rfl⟩⟩
        · simp [results, Tryd.results40, go_sem]
        · rw [HF.out.1, HF.out.2.1, HF.out.2.2]
      | false =>
        rw [ho] at hPe
        have HV2 : Hid (∀ j, j < i + 1 → oc j = false) := fun j hj => by
          rcases Nat.lt_or_ge j i with hh | hh
          · exact HV.out j hh
          · obtain rfl : j = i := by omega
            exact ho
        clear HV HAt HNo HPe ho
        go_wp2_with fail
        go_roundw
        case rel => exact ⟨i + 1, by omega, by go_num, by trivial, HV2⟩
        case measure => simp [intOf]; omega
    · have hlt2 : ¬ ((i : Int) + (m : Int) ≤ (n : Int)) := by omega
      have HF := Lib.hid (HNo.out i hlt HV.out)
      clear HV HAt HNo HPe
      go_wp2_with fail
      refine bodyPost_ret (v := .tuple #[.string s, .string ⟨#[]⟩, .bool false]) ?_ rfl ⟨?_, Below.refl _ _⟩
      · simp [results, Tryd.results40, go_sem]
      · rw [HF.out.1, HF.out.2.1, HF.out.2.2]
end Go.Proofs.YtlgnllnjhpihdaaDoor
