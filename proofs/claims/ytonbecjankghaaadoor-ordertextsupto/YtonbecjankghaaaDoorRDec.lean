/- The walk of the document's Decode. -/
import Derived.Test.YtonbecjankghaaaDoorREnc
import Derived.Test.YtonbecjankghaaaDoorODec
namespace Go.Proofs.YtonbecjankghaaaDoor
open Go.RowKit Go.Sort

theorem text_end : ∀ (j : Nat) (r : List UInt8), (∀ x ∈ r.take j, x ≠ 0) → (r[j]? = some 0 ∨ r.length ≤ j) → r.takeWhile (· != 0) = r.take j ∧ (r.dropWhile (· != 0)).drop 1 = r.drop (j + 1)
  | 0, [], _, _ => ⟨rfl, rfl⟩
  | 0, c :: r, _, h => by
    rcases h with h | h
    · simp at h
      subst h
      simp
    · simp at h
  | j + 1, [], _, _ => by simp
  | j + 1, c :: r, h, h' => by
    have hc : c ≠ 0 := h c (by simp)
    have hb : (c != 0) = true := by simpa using hc
    obtain ⟨e1, e2⟩ := text_end j r (fun x hx => h x (by simp [hx])) (by simpa using h')
    rw [List.takeWhile_cons, List.dropWhile_cons, hb]
    simp only [if_true, List.take_succ_cons, List.drop_succ_cons]
    exact ⟨by rw [e1], e2⟩
theorem num_end {k : Nat} {r : List UInt8} (hk : k ≤ 8) (h : k = 8 ∨ r.length ≤ k) : r.take 8 = r.take k ∧ r.drop 8 = r.drop k := by
  rcases h with rfl | h
  · exact ⟨rfl, rfl⟩
  · rw [List.take_of_length_le h, List.take_of_length_le (by omega), List.drop_of_length_le h, List.drop_of_length_le (by omega)]
    exact ⟨rfl, rfl⟩
theorem drop_byte {s : ByteArray} {i : Nat} (h : i < s.size) : s.data.toList.drop i = s[i] :: s.data.toList.drop (i + 1) := List.drop_eq_getElem_cons (by rw [← size_list]; exact h)
theorem one_atV (w : World) (B : Nat) (hB : w.heap.size = B) (v : Val) : ValsIn (w.alloc (.cells #[.int .i64 v.k, .int .i64 v.n, .string v.t, .bool v.b] 41)) (some ⟨B, 0, none⟩) [v] := by
  subst hB
  exact one_inV (in4_new w v.k v.n v.t v.b 41)
theorem ext_take (s : ByteArray) (i j : Nat) : s.extract i (i + j) = ⟨((s.data.toList.drop i).take j).toArray⟩ := by
  apply ba_ext
  rw [ByteArray.data_extract, Array.toList_extract, List.extract_eq_take_drop, Nat.add_sub_cancel_left]
/-- One value read. -/
theorem read_step {sl r : List UInt8} {c : UInt8} {p : List Val} {i : Nat} (h : readL sl = p ++ readL (sl.drop i)) (hd : sl.drop i = c :: r) {v : Val} {i' : Nat} (hv : rdV c r = (v, sl.drop i')) : readL sl = (p ++ [v]) ++ readL (sl.drop i') := by
  rw [h, hd, readL_cons, hv]
  simp
/-- What the document's Decode tells. -/
def RDecoded (w : World) (s : List UInt8) (e : Ending) (w' : World) : Prop :=
  ((∃ (l : List Val) (a : Option Addr) (c : Nat), IsTxt s l ∧ e = .returned (.tuple #[.slice a l.length c, .int .i64 0]) ∧ ValsIn w' a l) ∨ ((∀ l, ¬ IsTxt s l) ∧ e = .returned (.tuple #[.slice none 0 0, .int .i64 3]))) ∧ Below w.heap.size w w'
set_option maxRecDepth 100000 in
set_option maxHeartbeats 4000000 in
theorem rdecode_ (s : ByteArray) (w : World) (hs : s.size ≤ 1048576) : Calls Tryd.prog 8 #[.string s] w (RDecoded w s.data.toList) := by
  go_enter Tryd.func8, Tryd.ntmps8
  go_wp2_with fail
  go_loopw [4, 5] (fun lv iv wr => ∃ (i : Nat) (p : List Val), i ≤ s.size + 1 ∧ iv = .int .i64 i ∧ Hid (readL s.data.toList = p ++ readL (s.data.toList.drop i)) ∧ Hid (∀ x ∈ p, inI x.n) ∧ p.length ≤ i ∧ Hid (OwnV wr w.heap.size lv p) ∧ Hid (Below w.heap.size w wr)) (fun _ iv _ => s.size + 1 - (intOf iv).toNat)
  case atStart => exact ⟨0, [], Nat.zero_le _, rfl, rfl, fun x hx => by simp at hx, by simp, ownV_nil _ _, Below.refl _ _⟩
  case round =>
    obtain ⟨i, p, hi, rfl, HE, HP, hpl, HO, HBw⟩ := hrel
    by_cases hlt : i < s.size
    · have hlt2 : (i : Int) < (s.size : Int) := by omega
      have HD := Lib.hid (drop_byte hlt)
      have hcl := s[i].toNat_lt
      have HIN : Hid (∀ v : Val, inI v.n → ∀ x ∈ p ++ [v], inI x.n) := fun v hv x hx => by
        rcases List.mem_append.1 hx with hx | hx
        · exact HP.out x hx
        · rw [List.mem_singleton.1 hx]; exact hv
      have hroom : ∀ v : Val, (p.length + [v].length) * 40 ≤ 140737488355328 := fun v => by simp; omega
      have hplen : ∀ v : Val, (p ++ [v]).length ≤ i + 1 := fun v => by simp; omega
      clear HP
      by_cases c2 : s[i].toNat = 2
      · go_wp2_with fail
        go_loopw [5, 7, 8] (fun iv nv kv wy => ∃ (k T j : Nat), k ≤ 8 ∧ j = i + 1 + k ∧ j ≤ s.size ∧ iv = .int .i64 (j : Int) ∧ nv = .int .u64 (T : Int) ∧ kv = .int .i64 (k : Int) ∧ Hid (T = num8 ((s.data.toList.drop (i + 1)).take k)) ∧ wy = wr.alloc (.cells #[.int .i64 1, .int .i64 0, .string ⟨#[]⟩, .bool false] 41)) (fun _ _ kv _ => 8 - (intOf kv).toNat)
        case atStart => exact ⟨0, 0, i + 1, by omega, by omega, by omega, by go_num, rfl, rfl, rfl, rfl⟩
        case round =>
          obtain ⟨k, T, j, hk, hj, hjs, rfl, rfl, rfl, HT, rfl⟩ := hrel
          have hj1 : j ≤ i + 1 + k := by omega
          have hj2 : i + 1 + k ≤ j := by omega
          clear hj
          have hTl : T < 256 ^ k := by
            have h1 := num8_lt ((s.data.toList.drop (i + 1)).take k)
            rw [← HT.out] at h1
            exact Nat.lt_of_lt_of_le h1 (Nat.pow_le_pow_right (by decide) (List.length_take_le _ _))
          have hT64 : T < 18446744073709551616 := Nat.lt_of_lt_of_le hTl (by show 256 ^ k ≤ 256 ^ 8; exact Nat.pow_le_pow_right (by decide) hk)
          have hrl : (s.data.toList.drop (i + 1)).length = s.size - (i + 1) := by rw [List.length_drop, ← size_list]
          by_cases hk8 : k < 8
          · have hk8' : (k : Int) < 8 := by omega
            by_cases hjl : j < s.size
            · have hjl2 : (j : Int) < (s.size : Int) := by omega
              have hT56 : T < 72057594037927936 := Nat.lt_of_lt_of_le hTl (by show 256 ^ k ≤ 256 ^ 7; exact Nat.pow_le_pow_right (by decide) (by omega))
              have hcj := s[j].toNat_lt
              have HT2 : Hid (T * 256 + s[j].toNat = num8 ((s.data.toList.drop (i + 1)).take (k + 1))) := by
                show _ = _
                rw [List.take_add_one, List.getElem?_drop, show i + 1 + k = j by omega, List.getElem?_eq_getElem (by rw [← size_list]; exact hjl)]
                show _ = num8 ((s.data.toList.drop (i + 1)).take k ++ [s[j]])
                rw [num8_snoc, ← HT.out]
              have hw0 : IntKind.u64.wrap (s[j].toNat : Int) = (s[j].toNat : Int) := by show (s[j].toNat : Int) % 18446744073709551616 = _; omega
              have hw1 : IntKind.u64.wrap ((T : Int) * 256) = (T : Int) * 256 := by show (T : Int) * 256 % 18446744073709551616 = _; omega
              have hw2 : IntKind.u64.wrap ((T : Int) * 256 + (s[j].toNat : Int)) = (T : Int) * 256 + (s[j].toNat : Int) := by show ((T : Int) * 256 + (s[j].toNat : Int)) % 18446744073709551616 = _; omega
              clear HT hTl hrl
              go_wp2_with fail
              go_roundw
              case rel => exact ⟨k + 1, T * 256 + s[j].toNat, j + 1, by omega, by omega, by omega, by go_num, by first | rfl | (congr 1; omega), by go_num, HT2, trivial⟩
              case measure => simp [intOf]; omega
            · have hjl2 : ¬ (j : Int) < (s.size : Int) := by omega
              have hend := num_end (k := k) (r := s.data.toList.drop (i + 1)) hk (.inr (by rw [hrl]; omega))
              have HR : Hid (rdV s[i] (s.data.toList.drop (i + 1)) = (⟨1, (T : Int) - 9223372036854775808, ⟨#[]⟩, false⟩, s.data.toList.drop j)) := by
                show _ = _
                rw [rdV, if_pos c2, hend.1, hend.2, ← HT.out, List.drop_drop, show i + 1 + k = j by omega]
              have hin : inI ((T : Int) - 9223372036854775808) := ⟨by omega, by omega⟩
              have hback := turned_back hT64
              clear HT hTl hend
              go_wp2_with (first
                | (at_builtin; refine wpList_append_vals w.heap.size _ w rfl _ _ rfl _ p [⟨1, (T : Int) - 9223372036854775808, ⟨#[]⟩, false⟩] rfl (HO.out.on (((Below.refl _ _).alloc (Nat.le_refl _) _).alloc (by simp) _)) _ 0 1 1 rfl rfl (one_atV _ _ (by simp) ⟨1, (T : Int) - 9223372036854775808, ⟨#[]⟩, false⟩) (hroom _) (Nat.le_refl _) (below_step HBw.out (((Below.refl _ _).alloc (Nat.le_refl _) _).alloc (by simp) _)) ?_
                   intro v' w3 hown hb3
                   have HO3 := Lib.hid hown
                   have HB3 := Lib.hid hb3
                   clear hown hb3)
                | fail)
              go_roundw
              case rel => exact ⟨j, p ++ [⟨1, (T : Int) - 9223372036854775808, ⟨#[]⟩, false⟩], by omega, by go_num, read_step HE.out HD.out HR.out, HIN.out _ hin, by have := hplen ⟨1, (T : Int) - 9223372036854775808, ⟨#[]⟩, false⟩; omega, HO3, HB3⟩
              case measure => simp [intOf]; omega
          · have hk8' : ¬ (k : Int) < 8 := by omega
            have hend := num_end (k := k) (r := s.data.toList.drop (i + 1)) hk (.inl (by omega))
            have HR : Hid (rdV s[i] (s.data.toList.drop (i + 1)) = (⟨1, (T : Int) - 9223372036854775808, ⟨#[]⟩, false⟩, s.data.toList.drop j)) := by
              show _ = _
              rw [rdV, if_pos c2, hend.1, hend.2, ← HT.out, List.drop_drop, show i + 1 + k = j by omega]
            have hin : inI ((T : Int) - 9223372036854775808) := ⟨by omega, by omega⟩
            have hback := turned_back hT64
            clear HT hTl hend
            go_wp2_with (first
              | (at_builtin; refine wpList_append_vals w.heap.size _ w rfl _ _ rfl _ p [⟨1, (T : Int) - 9223372036854775808, ⟨#[]⟩, false⟩] rfl (HO.out.on (((Below.refl _ _).alloc (Nat.le_refl _) _).alloc (by simp) _)) _ 0 1 1 rfl rfl (one_atV _ _ (by simp) ⟨1, (T : Int) - 9223372036854775808, ⟨#[]⟩, false⟩) (hroom _) (Nat.le_refl _) (below_step HBw.out (((Below.refl _ _).alloc (Nat.le_refl _) _).alloc (by simp) _)) ?_
                 intro v' w3 hown hb3
                 have HO3 := Lib.hid hown
                 have HB3 := Lib.hid hb3
                 clear hown hb3)
              | fail)
            go_roundw
            case rel => exact ⟨j, p ++ [⟨1, (T : Int) - 9223372036854775808, ⟨#[]⟩, false⟩], by omega, by go_num, read_step HE.out HD.out HR.out, HIN.out _ hin, by have := hplen ⟨1, (T : Int) - 9223372036854775808, ⟨#[]⟩, false⟩; omega, HO3, HB3⟩
            case measure => simp [intOf]; omega
      by_cases c3 : s[i].toNat = 3
      · go_wp2_with fail
        go_loopw [5] (fun iv wy => ∃ j : Nat, i + 1 ≤ j ∧ j ≤ s.size ∧ iv = .int .i64 (j : Int) ∧ Hid (∀ x ∈ (s.data.toList.drop (i + 1)).take (j - (i + 1)), x ≠ 0) ∧ wy = wr.alloc (.cells #[.int .i64 2, .int .i64 0, .string ⟨#[]⟩, .bool false] 41)) (fun iv _ => s.size - (intOf iv).toNat)
        case atStart => exact ⟨i + 1, Nat.le_refl _, by omega, by go_num, (fun x hx => by simp at hx), rfl⟩
        case round =>
          obtain ⟨j, hj, hjs, rfl, HZ, rfl⟩ := hrel
          have hij : ((i : Int) + 1) ≤ (j : Int) := by omega
          have hij2 : (j : Int) ≤ (s.size : Int) := by omega
          by_cases hjl : j < s.size
          · have hjl2 : (j : Int) < (s.size : Int) := by omega
            have hget : (s.data.toList.drop (i + 1))[j - (i + 1)]? = some s[j] := by
              rw [List.getElem?_drop, show i + 1 + (j - (i + 1)) = j by omega, List.getElem?_eq_getElem (by rw [← size_list]; exact hjl)]
              rfl
            by_cases hz : s[j].toNat = 0
            · have hq : (((s[j].toNat : Nat) : Int) != 0) = false := by rw [hz]; rfl
              have hz0 : s[j] = 0 := UInt8.toNat_inj.1 (by rw [hz]; rfl)
              have hend := text_end (j - (i + 1)) (s.data.toList.drop (i + 1)) HZ.out (.inl (by rw [hget, hz0]))
              have HR : Hid (rdV s[i] (s.data.toList.drop (i + 1)) = (⟨2, 0, s.extract (i + 1) j, false⟩, s.data.toList.drop (j + 1))) := by
                show _ = _
                have hx := ext_take s (i + 1) (j - (i + 1))
                rw [show i + 1 + (j - (i + 1)) = j by omega] at hx
                rw [rdV, if_neg c2, if_pos c3, hend.1, hend.2, hx, List.drop_drop, show i + 1 + (j - (i + 1) + 1) = j + 1 by omega]
              clear HZ hend
              go_wp2_with (first
                | (at_builtin; refine wpList_append_vals w.heap.size _ w rfl _ _ rfl _ p [⟨2, 0, s.extract (i + 1) j, false⟩] rfl (HO.out.on (((Below.refl _ _).alloc (Nat.le_refl _) _).alloc (by simp) _)) _ 0 1 1 rfl rfl (one_atV _ _ (by simp) ⟨2, 0, s.extract (i + 1) j, false⟩) (hroom _) (Nat.le_refl _) (below_step HBw.out (((Below.refl _ _).alloc (Nat.le_refl _) _).alloc (by simp) _)) ?_
                   intro v' w3 hown hb3
                   have HO3 := Lib.hid hown
                   have HB3 := Lib.hid hb3
                   clear hown hb3)
                | fail)
              go_roundw
              case rel => exact ⟨j + 1, p ++ [⟨2, 0, s.extract (i + 1) j, false⟩], by omega, by go_num, read_step HE.out HD.out HR.out, HIN.out _ inI_zero, by have := hplen ⟨2, 0, s.extract (i + 1) j, false⟩; omega, HO3, HB3⟩
              case measure => simp [intOf]; omega
            · have hq : (((s[j].toNat : Nat) : Int) != 0) = true := by simp; omega
              have HZ2 : Hid (∀ x ∈ (s.data.toList.drop (i + 1)).take (j + 1 - (i + 1)), x ≠ 0) := fun x hx => by
                rw [show j + 1 - (i + 1) = j - (i + 1) + 1 by omega, List.take_add_one, hget] at hx
                rcases List.mem_append.1 hx with hx | hx
                · exact HZ.out x hx
                · simp at hx
                  subst hx
                  intro e
                  rw [e] at hz
                  exact hz rfl
              clear HZ hget
              go_wp2_with fail
              go_roundw
              case rel => exact ⟨j + 1, by omega, by omega, by go_num, HZ2, trivial⟩
              case measure => simp [intOf]; omega
          · have hjl2 : ¬ (j : Int) < (s.size : Int) := by omega
            have hend := text_end (j - (i + 1)) (s.data.toList.drop (i + 1)) HZ.out (.inr (by rw [List.length_drop, ← size_list]; omega))
            have HR : Hid (rdV s[i] (s.data.toList.drop (i + 1)) = (⟨2, 0, s.extract (i + 1) j, false⟩, s.data.toList.drop (j + 1))) := by
              show _ = _
              have hx := ext_take s (i + 1) (j - (i + 1))
              rw [show i + 1 + (j - (i + 1)) = j by omega] at hx
              rw [rdV, if_neg c2, if_pos c3, hend.1, hend.2, hx, List.drop_drop, show i + 1 + (j - (i + 1) + 1) = j + 1 by omega]
            clear HZ hend
            go_wp2_with (first
              | (at_builtin; refine wpList_append_vals w.heap.size _ w rfl _ _ rfl _ p [⟨2, 0, s.extract (i + 1) j, false⟩] rfl (HO.out.on (((Below.refl _ _).alloc (Nat.le_refl _) _).alloc (by simp) _)) _ 0 1 1 rfl rfl (one_atV _ _ (by simp) ⟨2, 0, s.extract (i + 1) j, false⟩) (hroom _) (Nat.le_refl _) (below_step HBw.out (((Below.refl _ _).alloc (Nat.le_refl _) _).alloc (by simp) _)) ?_
                 intro v' w3 hown hb3
                 have HO3 := Lib.hid hown
                 have HB3 := Lib.hid hb3
                 clear hown hb3)
              | fail)
            go_roundw
            case rel => exact ⟨j + 1, p ++ [⟨2, 0, s.extract (i + 1) j, false⟩], by omega, by go_num, read_step HE.out HD.out HR.out, HIN.out _ inI_zero, by have := hplen ⟨2, 0, s.extract (i + 1) j, false⟩; omega, HO3, HB3⟩
            case measure => simp [intOf]; omega
      by_cases c4 : s[i].toNat = 4
      · by_cases h1 : i + 1 < s.size
        · have h1' : (i : Int) + 1 < (s.size : Int) := by omega
          have hd := drop_byte h1
          by_cases hq : s[i + 1].toNat = 1
          · have hq2 : (((s[i + 1].toNat : Nat) : Int) == 1) = true := by rw [hq]; rfl
            have hq1 : s[i + 1] = 1 := UInt8.toNat_inj.1 (by rw [hq]; rfl)
            have HR : Hid (rdV s[i] (s.data.toList.drop (i + 1)) = (⟨3, 0, ⟨#[]⟩, true⟩, s.data.toList.drop (i + 2))) := by
              show _ = _
              rw [rdV, if_neg c2, if_neg c3, if_pos c4, List.drop_drop]
              refine Prod.ext ?_ rfl
              exact val_ext rfl rfl rfl (by show ((s.data.toList.drop (i + 1)).head? == some 1) = true; rw [hd, hq1]; rfl)
            go_wp2_with (first
              | (at_builtin; refine wpList_append_vals w.heap.size _ w rfl _ _ rfl _ p [⟨3, 0, ⟨#[]⟩, true⟩] rfl (HO.out.on (((Below.refl _ _).alloc (Nat.le_refl _) _).alloc (by simp) _)) _ 0 1 1 rfl rfl (one_atV _ _ (by simp) ⟨3, 0, ⟨#[]⟩, true⟩) (hroom _) (Nat.le_refl _) (below_step HBw.out (((Below.refl _ _).alloc (Nat.le_refl _) _).alloc (by simp) _)) ?_
                 intro v' w3 hown hb3
                 have HO3 := Lib.hid hown
                 have HB3 := Lib.hid hb3
                 clear hown hb3)
              | fail)
            go_roundw
            case rel => exact ⟨i + 2, p ++ [⟨3, 0, ⟨#[]⟩, true⟩], by omega, by go_num, read_step HE.out HD.out HR.out, HIN.out _ inI_zero, by have := hplen ⟨3, 0, ⟨#[]⟩, true⟩; omega, HO3, HB3⟩
            case measure => simp [intOf]; omega
          · have hq2 : (((s[i + 1].toNat : Nat) : Int) == 1) = false := by simp; omega
            have hq1 : s[i + 1] ≠ 1 := fun e => hq (by rw [e]; rfl)
            have HR : Hid (rdV s[i] (s.data.toList.drop (i + 1)) = (⟨3, 0, ⟨#[]⟩, false⟩, s.data.toList.drop (i + 2))) := by
              show _ = _
              rw [rdV, if_neg c2, if_neg c3, if_pos c4, List.drop_drop]
              refine Prod.ext ?_ rfl
              exact val_ext rfl rfl rfl (by show ((s.data.toList.drop (i + 1)).head? == some 1) = false; rw [hd]; simpa using hq1)
            go_wp2_with (first
              | (at_builtin; refine wpList_append_vals w.heap.size _ w rfl _ _ rfl _ p [⟨3, 0, ⟨#[]⟩, false⟩] rfl (HO.out.on (((Below.refl _ _).alloc (Nat.le_refl _) _).alloc (by simp) _)) _ 0 1 1 rfl rfl (one_atV _ _ (by simp) ⟨3, 0, ⟨#[]⟩, false⟩) (hroom _) (Nat.le_refl _) (below_step HBw.out (((Below.refl _ _).alloc (Nat.le_refl _) _).alloc (by simp) _)) ?_
                 intro v' w3 hown hb3
                 have HO3 := Lib.hid hown
                 have HB3 := Lib.hid hb3
                 clear hown hb3)
              | fail)
            go_roundw
            case rel => exact ⟨i + 2, p ++ [⟨3, 0, ⟨#[]⟩, false⟩], by omega, by go_num, read_step HE.out HD.out HR.out, HIN.out _ inI_zero, by have := hplen ⟨3, 0, ⟨#[]⟩, false⟩; omega, HO3, HB3⟩
            case measure => simp [intOf]; omega
        · have h1' : ¬ (i : Int) + 1 < (s.size : Int) := by omega
          have hd : s.data.toList.drop (i + 1) = [] := List.drop_of_length_le (by rw [← size_list]; omega)
          have HR : Hid (rdV s[i] (s.data.toList.drop (i + 1)) = (⟨3, 0, ⟨#[]⟩, false⟩, s.data.toList.drop (i + 2))) := by
            show _ = _
            rw [rdV, if_neg c2, if_neg c3, if_pos c4, List.drop_drop]
            refine Prod.ext ?_ rfl
            exact val_ext rfl rfl rfl (by show ((s.data.toList.drop (i + 1)).head? == some 1) = false; rw [hd]; rfl)
          go_wp2_with (first
            | (at_builtin; refine wpList_append_vals w.heap.size _ w rfl _ _ rfl _ p [⟨3, 0, ⟨#[]⟩, false⟩] rfl (HO.out.on (((Below.refl _ _).alloc (Nat.le_refl _) _).alloc (by simp) _)) _ 0 1 1 rfl rfl (one_atV _ _ (by simp) ⟨3, 0, ⟨#[]⟩, false⟩) (hroom _) (Nat.le_refl _) (below_step HBw.out (((Below.refl _ _).alloc (Nat.le_refl _) _).alloc (by simp) _)) ?_
               intro v' w3 hown hb3
               have HO3 := Lib.hid hown
               have HB3 := Lib.hid hb3
               clear hown hb3)
            | fail)
          go_roundw
          case rel => exact ⟨i + 2, p ++ [⟨3, 0, ⟨#[]⟩, false⟩], by omega, by go_num, read_step HE.out HD.out HR.out, HIN.out _ inI_zero, by have := hplen ⟨3, 0, ⟨#[]⟩, false⟩; omega, HO3, HB3⟩
          case measure => simp [intOf]; omega
      · have HR : Hid (rdV s[i] (s.data.toList.drop (i + 1)) = (⟨(s[i].toNat : Int) - 1, 0, ⟨#[]⟩, false⟩, s.data.toList.drop (i + 1))) := by
          show _ = _
          rw [rdV, if_neg c2, if_neg c3, if_neg c4]
        have e1 : ((s[i].toNat : Int) - 1 == 1) = false := by simp; omega
        have e2 : ((s[i].toNat : Int) - 1 == 2) = false := by simp; omega
        have e3 : ((s[i].toNat : Int) - 1 == 3) = false := by simp; omega
        go_wp2_with (first
          | (at_builtin; refine wpList_append_vals w.heap.size _ w rfl _ _ rfl _ p [⟨(s[i].toNat : Int) - 1, 0, ⟨#[]⟩, false⟩] rfl (HO.out.on (((Below.refl _ _).alloc (Nat.le_refl _) _).alloc (by simp) _)) _ 0 1 1 rfl rfl (one_atV _ _ (by simp) ⟨(s[i].toNat : Int) - 1, 0, ⟨#[]⟩, false⟩) (hroom _) (Nat.le_refl _) (below_step HBw.out (((Below.refl _ _).alloc (Nat.le_refl _) _).alloc (by simp) _)) ?_
             intro v' w3 hown hb3
             have HO3 := Lib.hid hown
             have HB3 := Lib.hid hb3
             clear hown hb3)
          | fail)
        go_roundw
        case rel => exact ⟨i + 1, p ++ [⟨(s[i].toNat : Int) - 1, 0, ⟨#[]⟩, false⟩], by omega, by go_num, read_step HE.out HD.out HR.out, HIN.out _ inI_zero, hplen _, HO3, HB3⟩
        case measure => simp [intOf]; omega
    · have hlt2 : ¬ (i : Int) < (s.size : Int) := by omega
      have hnil : s.data.toList.drop i = [] := List.drop_of_length_le (by rw [← size_list]; omega)
      have hp : readL s.data.toList = p := by
        have := HE.out
        rw [hnil] at this
        simpa [readL, rdL] using this
      have HNO : Hid (∀ l, IsTxt s.data.toList l → l = p) := fun l hl => by
        have := readL_enc l hl.1
        rw [← hl.2.2, hp] at this
        exact this.symm
      obtain ⟨a, c, rfl, hin, _⟩ := HO.out.vals
      have HEN := Lib.hid (rencode_ a c p wr hin HP.out (by omega))
      have HIN := Lib.hid hin
      obtain ⟨P, hPl⟩ : ∃ P, p.length = P := ⟨_, rfl⟩
      have HPl := Lib.hid hPl
      rw [hPl] at HEN
      rw [hPl]
      by_cases h0 : errL p = 0
      · have htx : txtL p = encL p := by rw [txtL, h0, if_pos rfl]
        rw [h0, htx] at HEN
        by_cases ht : encL p = s.data.toList
        · have HT : Hid (IsTxt s.data.toList p) := ⟨fun v hv => ⟨((errL_zero p).1 h0).1 v hv, HP.out v hv⟩, ((errL_zero p).1 h0).2, ht.symm⟩
          have hTS : (⟨(encL p).toArray⟩ : ByteArray) = s := ba_ext (by rw [← ht])
          rw [hTS] at HEN
          clear HE HP HO hin hPl h0 htx ht hp hnil hTS HNO
          go_wp2_with fail
          refine HEN.out.mono ?_
          rintro e w1 ⟨rfl, hb1⟩
          have HB1 := Lib.hid (below_step HBw.out hb1)
          have HI1 := Lib.hid (HIN.out.on hb1)
          clear hb1 HEN HIN HBw
          go_wp2_with fail
          exact bodyPost_ret (v := .tuple #[.slice a P c, .int .i64 0]) (by simp [results, Tryd.results8, go_sem]) rfl ⟨.inl ⟨p, a, c, HT.out, by rw [HPl.out], HI1.out⟩, HB1.out⟩
        · have HX : Hid (∀ l, ¬ IsTxt s.data.toList l) := fun l hl => by
            obtain rfl := HNO.out l hl
            exact ht hl.2.2.symm
          obtain ⟨T, hT⟩ : ∃ T : ByteArray, (⟨(encL p).toArray⟩ : ByteArray) = T := ⟨_, rfl⟩
          have hTS : (T.toList == s.toList) = false := by
            rw [Lib.toList_data, Lib.toList_data, ← hT]
            simp only [beq_eq_false_iff_ne, ne_eq]
            exact ht
          rw [hT] at HEN
          clear HE HP HO hin hPl h0 htx ht hp hnil HNO hT
          go_wp2_with fail
          refine HEN.out.mono ?_
          rintro e w1 ⟨rfl, hb1⟩
          have HB1 := Lib.hid (below_step HBw.out hb1)
          clear hb1 HEN HIN HBw
          go_wp2_with fail
          exact bodyPost_ret (v := .tuple #[.slice none 0 0, .int .i64 3]) (by simp [results, Tryd.results8, go_sem]) rfl ⟨.inr ⟨HX.out, rfl⟩, HB1.out⟩
      · have HX : Hid (∀ l, ¬ IsTxt s.data.toList l) := fun l hl => by
          obtain rfl := HNO.out l hl
          exact h0 hl.err
        obtain ⟨T, hT⟩ : ∃ T : ByteArray, (⟨(txtL p).toArray⟩ : ByteArray) = T := ⟨_, rfl⟩
        obtain ⟨E, hE⟩ : ∃ E, errL p = E := ⟨_, rfl⟩
        have h0' : (E != 0) = true := by rw [← hE]; simpa using h0
        rw [hT, hE] at HEN
        clear HE HP HO hin hPl h0 hp hnil HNO hT hE
        go_wp2_with fail
        refine HEN.out.mono ?_
        rintro e w1 ⟨rfl, hb1⟩
        have HB1 := Lib.hid (below_step HBw.out hb1)
        clear hb1 HEN HIN HBw
        go_wp2_with fail
        exact bodyPost_ret (v := .tuple #[.slice none 0 0, .int .i64 3]) (by simp [results, Tryd.results8, go_sem]) rfl ⟨.inr ⟨HX.out, rfl⟩, HB1.out⟩
end Go.Proofs.YtonbecjankghaaaDoor
