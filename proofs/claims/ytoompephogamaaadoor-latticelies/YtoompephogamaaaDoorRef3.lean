/- The walk of the document's own Order. -/
import Derived.Test.YtoompephogamaaaDoorHeight
namespace Go.Proofs.YtoompephogamaaaDoor
open Go.RowKit Go.Sort

set_option maxHeartbeats 2000000 in
set_option maxRecDepth 100000 in
theorem r2Order_ (a : Option Addr) (c : Nat) (ls : List Lab) (w : World) (h : LabsIn w a ls) (hw : allW ls) (hd : ls.Nodup) (hn : ls.length ≤ 16) :
    Calls Tryd.prog 18 #[.slice a ls.length c] w fun e w' => ∃ a' c', e = .returned (.slice a' (orderL ls).length c') ∧ IntsIn w' a' (orderL ls) ∧ Below w.heap.size w w' := by
  have HH : Hid (∀ (i : Nat) (W : World), i < ls.length → LabsIn W a ls → Calls Tryd.prog 28 #[.slice a ls.length c, .int .i64 i] W fun e w' => e = .returned (.int .i64 (hgt ls i)) ∧ Below W.heap.size W w') := fun i W hi hL => height_ a c ls hw hd hn _ i (Nat.le_refl _) hi W hL
  have HO : Hid (hgtTo ls ls.length = orderL ls) := hgtTo_order hw hd
  have HS : Hid (∀ k, hgtTo ls (k + 1) = hgtTo ls k ++ upTo (fun i => hgt ls i == k) ls.length) := fun _ => rfl
  have HLEN : Hid (∀ k, (hgtTo ls k).length ≤ ls.length) := fun k => hgtTo_len ls hw hd k
  have HLT : Hid (∀ i, i < ls.length → hgt ls i < ls.length) := fun i hi => hgt_lt hw hd hi
  rw [← HO.out]
  have HL : Hid (LabsIn w a ls) := h
  clear h hw hd HO
  have H0 : Hid (hgtTo ls 0 = []) := rfl
  generalize hgtTo ls = g at *
  generalize hgt ls = f at *
  obtain ⟨n, hnn⟩ : ∃ n, ls.length = n := ⟨_, rfl⟩
  rw [hnn] at hn HH HS HLEN HLT ⊢
  clear hnn
  obtain ⟨i0, hi, hz0, hz1, hz2⟩ := info_parts info3
  go_enter Tryd.func18, Tryd.ntmps18
  go_wp2_with fail
  go_loopw [3, 4] (fun ov hv wr => ∃ k : Nat, k ≤ n ∧ hv = .int .i64 k ∧ wr.ownsRow w.heap.size 3 1 ov (g k).length (ints (g k)) ∧ Below w.heap.size w wr) (fun _ hv _ => n - (intOf hv).toNat)
  case atStart => exact ⟨0, Nat.zero_le _, rfl, by rw [H0.out]; exact World.ownsRow_nil _ _ _ _, Below.refl _ _⟩
  case round =>
    obtain ⟨k, hk, rfl, hown, hb⟩ := hrel
    have HOW := Lib.hid hown
    clear hown
    by_cases hlt : k < n
    · rename World => W1
      obtain ⟨p, hp⟩ : ∃ p : Nat → Bool, p = fun i => f i == k := ⟨_, rfl⟩
      have HPX : Hid (∀ i, p i = (f i == k)) := fun i => by rw [hp]
      have HSK : Hid (g (k + 1) = g k ++ upTo p n) := by unfold Hid; rw [hp]; exact HS.out k
      have hgk := HLEN.out (k + 1)
      rw [HSK.out, List.length_append] at hgk
      clear hp
      generalize g k = G at *
      go_wp2_with fail
      go_loopw [3, 5] (fun ov iv wq => ∃ j : Nat, j ≤ n ∧ iv = .int .i64 j ∧ wq.ownsRow w.heap.size 3 1 ov (G.length + (upTo p j).length) (ints (G ++ upTo p j)) ∧ Below w.heap.size w wq) (fun _ iv _ => n - (intOf iv).toNat)
      case atStart => exact ⟨0, Nat.zero_le _, rfl, by simpa [upTo] using HOW.out, hb⟩
      case round =>
        obtain ⟨j, hj, rfl, hown, hbj⟩ := hrel
        have HOJ := Lib.hid hown
        have huj := upTo_len p j
        clear hown hb
        by_cases hjn : j < n
        · have hfj := HLT.out j hjn
          go_wp2_with fail
          refine (HH.out j wr hjn (HL.out.on hbj)).mono ?_
          rintro e w2 ⟨rfl, hb2⟩
          have hb3 : Below w.heap.size w w2 := hbj.trans (hb2.mono hbj.size)
          have HO2 := Lib.hid (owns_on HOJ.out hb2)
          have hsz := hb3.size
          have HPJ := Lib.hid (HPX.out j)
          by_cases hfk : f j = k
          · have hp : p j = true := by rw [HPJ.out, hfk]; simp
            have HP := Lib.hid hp
            clear hp
            generalize f j = u at *
            subst hfk
            go_wp2_with (first
              | (at_builtin; refine wpList_append_own _ rfl _ _ 30 rfl w.heap.size 3 i0 (.int .i64 0) 1 8 Tryd.underlying30 hi hz0 hz1 hz2 rfl (by decide) _ _ _ rfl (HO2.out.alloc _) ⟨w2.heap.size, 0, none⟩ 1 1 [.int .i64 j] rfl rfl (one_cell _ _ _) (one_one _) (by unfold maxLen; omega) (by omega) (by simp; omega) ?_)
              | go_in)
            intro v' w3 hown' hgrow _
            have hb4 : Below w.heap.size w w3 := (hb3.alloc hb3.size _).grown hgrow (by simp; omega) (fun q hq => (HO2.out.lt q hq).1)
            rw [ints_snoc, List.append_assoc, ← upTo_yes HP.out] at hown'
            have e1 : G.length + (upTo p (j + 1)).length = G.length + (upTo p j).length + 1 := by rw [upTo_yes HP.out]; simp; omega
            rw [← e1] at hown'
            have HO3 := Lib.hid hown'
            clear hown' hgrow e1
            go_wp2
            go_roundw
            case rel => exact ⟨j + 1, by omega, by go_num, HO3.out, hb4⟩
            case measure => simp [intOf]; omega
          · have hp : p j = false := by rw [HPJ.out]; simpa using hfk
            have HP := Lib.hid hp
            have hfk' : ¬ (f j : Int) = (k : Int) := by omega
            clear hp
            generalize f j = u at *
            go_wp2_with fail
            go_roundw
            case rel => exact ⟨j + 1, by omega, by go_num, by rw [upTo_no HP.out]; exact HO2.out, hb3⟩
            case measure => simp [intOf]; omega
        · obtain rfl : j = n := by omega
          have HO2 : Hid (wr.ownsRow w.heap.size 3 1 u3 (g (k + 1)).length (ints (g (k + 1)))) := by
            unfold Hid
            rw [HSK.out, List.length_append]
            exact HOJ.out
          go_wp2_with fail
          go_roundw
          case rel => exact ⟨k + 1, by omega, by go_num, HO2.out, hbj⟩
          case measure => simp [intOf]; omega
    · obtain rfl : k = n := by omega
      obtain ⟨a4, c4, rfl, hin⟩ := intsIn_of HOW.out
      have HIN := Lib.hid hin
      clear hin
      go_wp2_with fail
      go_ret
      exact ⟨a4, c4, rfl, HIN.out, hb⟩
end Go.Proofs.YtoompephogamaaaDoor
