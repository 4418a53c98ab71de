/- The walk of the document's own Text of a lattice. -/
import Derived.Test.YtoompephogamaaaGreatDoorTextW
import Derived.Test.YtoompephogamaaaGreatDoorW6
namespace Go.Proofs.YtoompephogamaaaGreatDoor
open Go.RowKit Go.Sort

/-- The texts of the first k labels, with blanks between. -/
def jt (ls : List Lab) : Nat → List UInt8
  | 0 => []
  | k + 1 => (if 0 < k then jt ls k ++ [32] else jt ls k) ++ textL (lab ls k)
theorem join_snoc (xs : List (List UInt8)) (y : List UInt8) : Lib.join (xs ++ [y]) [32] = (if xs = [] then [] else Lib.join xs [32] ++ [32]) ++ y := by
  cases xs with
  | nil => rw [if_pos rfl, List.nil_append, Lib.join_one]; rfl
  | cons x r =>
    rw [if_neg (by simp), List.cons_append, Lib.join_cons, Lib.join_cons]
    simp [Lib.joinTail, List.append_assoc]
theorem jt_take (ls : List Lab) : ∀ k, k ≤ ls.length → jt ls k = joinL (ls.take k)
  | 0, _ => rfl
  | k + 1, h => by
    have ih := jt_take ls k (by omega)
    unfold joinL at *
    rw [take_snoc (by omega), List.map_append, List.map_singleton, join_snoc]
    rw [jt, ih]
    by_cases hk : 0 < k
    · rw [if_pos hk, if_neg (fun e => by have h2 := congrArg List.length e; rw [List.length_map, List.length_take] at h2; simp only [List.length_nil] at h2; omega)]
    · obtain rfl : k = 0 := by omega
      rw [if_neg (by omega)]
      rfl
theorem jt_join (ls : List Lab) : jt ls ls.length = joinL ls := by rw [jt_take ls _ (Nat.le_refl _), List.take_length]
theorem jt_len {ls : List Lab} (hok : ls.all okLab = true) : ∀ k, k ≤ ls.length → (jt ls k).length ≤ 30 * k
  | 0, _ => by simp [jt]
  | k + 1, h => by
    have ih := jt_len hok k (by omega)
    have ht : (textL (lab ls k)).length ≤ 29 := text_len (List.all_eq_true.1 hok _ (lab_mem (by omega)))
    rw [jt, List.length_append]
    split
    · rw [List.length_append]; simp; omega
    · omega
theorem str_two (A B : List UInt8) : ((⟨A.toArray⟩ : ByteArray) ++ (⟨B.toArray⟩ : ByteArray)) = ⟨(A ++ B).toArray⟩ := by
  apply ByteArray.ext
  simp
theorem str_three' (A B : List UInt8) : ((⟨A.toArray⟩ : ByteArray) ++ (⟨#[32]⟩ : ByteArray)) ++ (⟨B.toArray⟩ : ByteArray) = ⟨(A ++ [32] ++ B).toArray⟩ := by
  apply ByteArray.ext
  simp

set_option maxHeartbeats 2000000 in
set_option maxRecDepth 100000 in
theorem r2Text_ (a : Option Addr) (c : Nat) (ls : List Lab) (w : World) (h : LabsIn w a ls) (hok : ls.all okLab = true) (hn : ls.length ≤ 16) :
    Calls Tryz.prog 15 #[.slice a ls.length c] w fun e w' => e = .returned (.string ⟨(joinL ls).toArray⟩) ∧ Below w.heap.size w w' := by
  rw [← jt_join ls]
  have hokj : ∀ j, j < ls.length → okL (lab ls j).1 (lab ls j).2 = true := fun j hj => List.all_eq_true.1 hok _ (lab_mem hj)
  have HT : Hid (∀ (j : Nat) (W : World), j < ls.length → Calls Tryz.prog 27 #[.agg #[.int .i64 (lab ls j).1, .int .u32 (lab ls j).2]] W fun e w' => e = .returned (.tuple #[.string ⟨(textL (lab ls j)).toArray⟩, .int .i64 0]) ∧ Below W.heap.size W w') := fun j W hj => by
    have hk := hokj j hj
    obtain ⟨n, hn⟩ := Int.eq_ofNat_of_zero_le (okL_iff.1 hk).1
    unfold textL
    rw [hn] at hk ⊢
    exact text8_yes n _ W hk
  have HLEN : Hid (∀ k, k ≤ ls.length → (jt ls k).length ≤ 30 * k) := fun k hk => jt_len hok k hk
  have HTL : Hid (∀ j, j < ls.length → (textL (lab ls j)).length ≤ 29) := fun j hj => text_len (hokj j hj)
  have H1 : Hid (∀ k, 0 < k → jt ls (k + 1) = jt ls k ++ [32] ++ textL (lab ls k)) := fun k hk => by unfold jt; rw [if_pos hk]; cases k with | zero => omega | succ k => rfl
  have H0 : Hid (jt ls 1 = textL (lab ls 0)) := rfl
  have HL := Lib.hid h
  clear h hok hokj
  obtain ⟨n, hnn⟩ : ∃ n, ls.length = n := ⟨_, rfl⟩
  rw [hnn] at hn HT HLEN HTL ⊢
  have HLn : Hid (∀ W, Below w.heap.size w W → ∀ i, i < n → ∃ b o, a = some ⟨b, o, none⟩ ∧ W.cell? ⟨b, o + i * 2, none⟩ = some (.int .i64 (lab ls i).1) ∧ W.cell? ⟨b, o + i * 2 + 1, none⟩ = some (.int .u32 (lab ls i).2)) := fun W hW i hi => HL.out.on hW i (hnn ▸ hi)
  clear hnn HL
  have HZ : Hid (jt ls 0 = []) := rfl
  generalize jt ls = J at *
  go_enter Tryz.func15, Tryz.ntmps15
  go_wp2_with fail
  go_loopw [3, 4] (fun sv iv wr => ∃ k : Nat, k ≤ n ∧ iv = .int .i64 k ∧ sv = .string ⟨(J k).toArray⟩ ∧ Below w.heap.size w wr) (fun _ iv _ => n - (intOf iv).toNat)
  case atStart => exact ⟨0, Nat.zero_le _, rfl, by rw [HZ.out], Below.refl _ _⟩
  case round =>
    obtain ⟨k, hk, rfl, rfl, hb⟩ := hrel
    by_cases hlt : k < n
    · obtain ⟨b, o, rfl, c1, c2⟩ := HLn.out wr hb k hlt
      have HTk : Hid (∀ W : World, Calls Tryz.prog 27 #[.agg #[.int .i64 (lab ls k).1, .int .u32 (lab ls k).2]] W fun e w' => e = .returned (.tuple #[.string ⟨(textL (lab ls k)).toArray⟩, .int .i64 0]) ∧ Below W.heap.size W w') := fun W => HT.out k W hlt
      have hjl := HLEN.out k hk
      have htl := HTL.out k hlt
      have HS : Hid (0 < k → J (k + 1) = J k ++ [32] ++ textL (lab ls k)) := H1.out k
      have HS0 : Hid (k = 0 → J (k + 1) = textL (lab ls k) ∧ J k = []) := fun e => by subst e; exact ⟨H0.out, HZ.out⟩
      generalize textL (lab ls k) = T at *
      generalize (lab ls k).1 = r at *
      generalize (lab ls k).2 = cc at *
      by_cases hk0 : 0 < k
      · have HJ := Lib.hid (HS.out hk0)
        have hk0' : (0 : Int) < (k : Int) := by omega
        clear HS HS0
        generalize J k = A at *
        go_wp2_with fail
        refine (HTk.out _).mono ?_
        rintro e w2 ⟨rfl, hb2⟩
        have hb3 : Below w.heap.size w w2 := hb.trans (hb2.mono hb.size)
        go_wp2_with fail
        go_roundw
        case rel => exact ⟨k + 1, by omega, by go_num, by rw [HJ.out, ← str_three'], hb3⟩
        case measure => simp [intOf]; omega
      · obtain rfl : k = 0 := by omega
        obtain ⟨e1, e2⟩ := HS0.out rfl
        have HJ := Lib.hid e1
        rw [e2]
        clear HS HS0 e1 e2 hjl
        simp only [Nat.zero_mul, Nat.add_zero] at c1 c2
        go_wp2_with fail
        refine (HTk.out _).mono ?_
        rintro e w2 ⟨rfl, hb2⟩
        have hb3 : Below w.heap.size w w2 := hb.trans (hb2.mono hb.size)
        go_wp2_with fail
        go_roundw
        case rel => exact ⟨0 + 1, by omega, by go_num, by rw [HJ.out]; exact congrArg Value.string (str_two [] T), hb3⟩
        case measure => simp [intOf]; omega
    · obtain rfl : k = n := by omega
      go_wp2_with fail
      go_ret
      exact ⟨rfl, hb⟩
end Go.Proofs.YtoompephogamaaaGreatDoor
