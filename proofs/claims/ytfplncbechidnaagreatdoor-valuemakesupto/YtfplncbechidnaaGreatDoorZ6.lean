/- The walk of the document's Parse, of a number. -/
import Derived.Test.YtfplncbechidnaaGreatDoorZ5
namespace Go.Proofs.YtfplncbechidnaaGreatDoor
open Go.RowKit Go.Sort

theorem rd_dig {N : Nat} {c : UInt8} (h1 : 48 ≤ c.toNat) (h2 : c.toNat ≤ 57) : Value.int .u64 (IntKind.u64.wrap (IntKind.u64.wrap (10 * (N : Int)) + ((c.toNat : Int) - 48))) = .int .u64 (rd N c : Nat) := by
  have e : isDig c = true := by simp [isDig, h1, h2]
  rw [rd, if_pos e]
  congr 1
  simp only [IntKind.wrap_u64]
  omega
theorem rd_no {N : Nat} {c : UInt8} (h : ¬ (48 ≤ c.toNat ∧ c.toNat ≤ 57)) : rd N c = N := by
  have e : ¬ isDig c = true := by simp [isDig]; omega
  rw [rd, if_neg e]
theorem rdN_end {s : ByteArray} {i : Nat} (hi0 : 20 < s.size → i = 0) (h : ¬ (i < s.size ∧ s.size ≤ 20)) : rdN s.data.toList = (s.data.toList.take i).foldl rd 0 := by
  unfold rdN
  rw [← size_list]
  by_cases h20 : s.size ≤ 20
  · rw [if_pos h20, List.take_of_length_le (by rw [← size_list]; omega)]
  · rw [if_neg h20, hi0 (by omega)]; rfl
theorem i64of_pos {N : Nat} (h : N < 18446744073709551616) : i64of N = wrap64 (N : Int) := by
  rw [i64of, wrap64]; split <;> omega
theorem i64of_neg {N : Nat} (h : N < 18446744073709551616) : i64of ((18446744073709551616 - N) % 18446744073709551616) = wrap64 (IntKind.u64.wrap (-(N : Int))) := by
  rw [i64of, IntKind.wrap_u64, wrap64]; split <;> omega
set_option maxHeartbeats 1000000 in
theorem rg_pos (s : ByteArray) (w : World) (h1 : (s.toList == [78, 85, 76, 76]) = false) (h2 : (s.toList == [84, 82, 85, 69]) = false) (h3 : (s.toList == [70, 65, 76, 83, 69]) = false) (hpos : 0 < s.size) (h39 : ¬ s[0].toNat = 39) (hl : 1 < s.size) (hneg : ¬ s[0].toNat = 45) (hl2 : s.size ≤ 1048576) (G : Nat) (hG : G = rdN s.data.toList)
    (x : ByteArray) (E F : Int) (R : Value) (hp : ∀ W, Calls Tryz.prog 5 #[.agg #[.int .i64 1, .int .i64 (i64of G), .string ⟨#[]⟩, .bool false]] W fun e w' => e = .returned (.tuple #[.string x, .int .i64 E]) ∧ Below W.heap.size W w')
    (hm : Made s x E (.agg #[.int .i64 1, .int .i64 (i64of G), .string ⟨#[]⟩, .bool false]) R F) :
    Calls Tryz.prog 7 #[.string s] w fun e w' => e = .returned (.tuple #[R, .int .i64 F]) ∧ Below w.heap.size w w' := by
  have HP := Lib.hid hp
  have HM := Lib.hid hm
  have HG := Lib.hid hG
  have hng : ((((s[0].toNat : Nat) : Int) == 45)) = false := by simp; omega
  have h39b : ((((s[0].toNat : Nat) : Int) == 39)) = false := by simp; omega
  have HI : Hid (∀ W, Calls Tryz.prog 10 #[.int .i64 (i64of G)] W fun e w' => e = .returned (.agg #[.int .i64 1, .int .i64 (i64of G), .string ⟨#[]⟩, .bool false]) ∧ Below W.heap.size W w') := fun W => rint_ _ W
  have F0 := Lib.hid (frv_start w 23)
  clear hp hm hG
  go_enter Tryz.func7, Tryz.ntmps7
  go_wp2_with fail
  generalize ((w.alloc (.cells #[.int .i64 0, .int .i64 0, .string ⟨#[]⟩, .bool false] 23)).alloc (.cells #[.int .i64 0, .int .i64 0, .string ⟨#[]⟩, .bool false] 23)) = w0 at *
  go_loopw [7, 9] (fun nv iv wr => ∃ (i N : Nat), (i ≤ s.size ∧ N < 18446744073709551616 ∧ (20 < s.size → i = 0)) ∧ Hid (N = (s.data.toList.take i).foldl rd 0) ∧ nv = .int .u64 N ∧ iv = .int .i64 i ∧ wr = w0) (fun _ iv _ => s.size - (intOf iv).toNat)
  case atStart =>
    exact ⟨0, 0, ⟨Nat.zero_le _, by decide, fun _ => rfl⟩, by simp [Hid], rfl, rfl, rfl⟩
  case round =>
    obtain ⟨i, N, ⟨hi, hN, hi0⟩, HN, rfl, rfl, rfl⟩ := hrel
    by_cases hlt : i < s.size ∧ s.size ≤ 20
    · obtain ⟨hlt, h20⟩ := hlt
      have hlt2 : (i : Int) < (s.size : Int) := by omega
      have HT : Hid (s.data.toList.take (i + 1) = s.data.toList.take i ++ [s[i]]) := take_byte hlt
      by_cases hd : 48 ≤ s[i].toNat ∧ s[i].toNat ≤ 57
      · obtain ⟨hd1, hd2⟩ := hd
        go_wp2_with fail
        go_roundw
        case rel =>
          refine ⟨i + 1, rd N s[i], ⟨by omega, rd_lt hN, fun h => by omega⟩, ?_, ?_, by go_num, trivial⟩
          · show _ = _
            rw [HT.out, List.foldl_append, ← HN.out]; rfl
          · rw [rd_dig hd1 hd2]
        case measure => simp [intOf]; omega
      · have HR : Hid (rd N s[i] = N) := rd_no hd
        rcases (by omega : s[i].toNat < 48 ∨ (48 ≤ s[i].toNat ∧ 57 < s[i].toNat)) with hd1 | ⟨hd1, hd2⟩
        all_goals
          go_wp2_with fail
          go_roundw
          case rel =>
            refine ⟨i + 1, N, ⟨by omega, hN, fun h => by omega⟩, ?_, rfl, by go_num, trivial⟩
            show _ = _
            rw [HT.out, List.foldl_append, ← HN.out]; exact HR.out.symm
          case measure => simp [intOf]; omega
    · have HE : Hid (wrap64 (N : Int) = i64of G) := by
        show _ = _
        rw [HG.out, i64of_pos (rdN_lt _), rdN_end hi0 hlt, ← HN.out]
      have F1 := F0
      rcases (by omega : (i < s.size ∧ 20 < s.size) ∨ ¬ i < s.size) with ⟨hA, hB⟩ | hA
      · have hA2 : (i : Int) < (s.size : Int) := by omega
        clear hlt hi0 HN
        go_wp2_with fail
        rw [HE.out]
        refine (HI.out _).mono ?_
        rintro e w3 ⟨rfl, hb3⟩
        obtain ⟨⟨⟨r0, r1, r2, r3⟩, ⟨f0, f1, f2, f3⟩, hbw, hsz⟩, ⟨p0, p1, p2, p3⟩, ⟨g0, g1, g2, g3⟩, hs2⟩ := F1.out.on hb3
        go_wp2_with fail
        refine (HP.out _).mono ?_
        rintro e w4 ⟨rfl, hb4⟩
        clear r0 r1 r2 r3 f0 f1 f2 f3 hbw hsz p0 p1 p2 p3 g0 g1 g2 g3 hs2
        obtain ⟨⟨⟨r0, r1, r2, r3⟩, ⟨f0, f1, f2, f3⟩, hbw, hsz⟩, ⟨p0, p1, p2, p3⟩, ⟨g0, g1, g2, g3⟩, hs2⟩ := ((F1.out.on hb3).set 1 (i64of G) ⟨#[]⟩ false).on hb4
        rcases HM.out with ⟨rfl, rfl, rfl, rfl⟩ | ⟨hE, rfl, rfl⟩ | ⟨rfl, hE, rfl, rfl⟩
        · have hxx : (x.toList == x.toList) = true := by simp
          go_wp2_with fail
          refine bodyPost_ret (v := .tuple #[.agg #[.int .i64 1, .int .i64 (i64of G), .string ⟨#[]⟩, .bool false], .int .i64 0]) ?_ rfl ⟨rfl, four_set hbw (w.heap.size) (by omega) _ _ _ _⟩
          simp [results, Tryz.results7, go_sem, r0, r1, r2, r3]
        · have hE1 : (E == 0) = false := by simpa using hE
          go_wp2_with fail
          refine bodyPost_ret (v := .tuple #[.agg #[.int .i64 0, .int .i64 0, .string ⟨#[]⟩, .bool false], .int .i64 3]) ?_ rfl ⟨rfl, four_set hbw (w.heap.size) (by omega) _ _ _ _⟩
          simp [results, Tryz.results7, go_sem, r0, r1, r2, r3]
        · go_wp2_with fail
          refine bodyPost_ret (v := .tuple #[.agg #[.int .i64 0, .int .i64 0, .string ⟨#[]⟩, .bool false], .int .i64 3]) ?_ rfl ⟨rfl, four_set hbw (w.heap.size) (by omega) _ _ _ _⟩
          simp [results, Tryz.results7, go_sem, r0, r1, r2, r3]
      · have hA2 : ¬ (i : Int) < (s.size : Int) := by omega
        clear hlt hi0 HN
        go_wp2_with fail
        rw [HE.out]
        refine (HI.out _).mono ?_
        rintro e w3 ⟨rfl, hb3⟩
        obtain ⟨⟨⟨r0, r1, r2, r3⟩, ⟨f0, f1, f2, f3⟩, hbw, hsz⟩, ⟨p0, p1, p2, p3⟩, ⟨g0, g1, g2, g3⟩, hs2⟩ := F1.out.on hb3
        go_wp2_with fail
        refine (HP.out _).mono ?_
        rintro e w4 ⟨rfl, hb4⟩
        clear r0 r1 r2 r3 f0 f1 f2 f3 hbw hsz p0 p1 p2 p3 g0 g1 g2 g3 hs2
        obtain ⟨⟨⟨r0, r1, r2, r3⟩, ⟨f0, f1, f2, f3⟩, hbw, hsz⟩, ⟨p0, p1, p2, p3⟩, ⟨g0, g1, g2, g3⟩, hs2⟩ := ((F1.out.on hb3).set 1 (i64of G) ⟨#[]⟩ false).on hb4
        rcases HM.out with ⟨rfl, rfl, rfl, rfl⟩ | ⟨hE, rfl, rfl⟩ | ⟨rfl, hE, rfl, rfl⟩
        · have hxx : (x.toList == x.toList) = true := by simp
          go_wp2_with fail
          refine bodyPost_ret (v := .tuple #[.agg #[.int .i64 1, .int .i64 (i64of G), .string ⟨#[]⟩, .bool false], .int .i64 0]) ?_ rfl ⟨rfl, four_set hbw (w.heap.size) (by omega) _ _ _ _⟩
          simp [results, Tryz.results7, go_sem, r0, r1, r2, r3]
        · have hE1 : (E == 0) = false := by simpa using hE
          go_wp2_with fail
          refine bodyPost_ret (v := .tuple #[.agg #[.int .i64 0, .int .i64 0, .string ⟨#[]⟩, .bool false], .int .i64 3]) ?_ rfl ⟨rfl, four_set hbw (w.heap.size) (by omega) _ _ _ _⟩
          simp [results, Tryz.results7, go_sem, r0, r1, r2, r3]
        · go_wp2_with fail
          refine bodyPost_ret (v := .tuple #[.agg #[.int .i64 0, .int .i64 0, .string ⟨#[]⟩, .bool false], .int .i64 3]) ?_ rfl ⟨rfl, four_set hbw (w.heap.size) (by omega) _ _ _ _⟩
          simp [results, Tryz.results7, go_sem, r0, r1, r2, r3]
set_option maxHeartbeats 1000000 in
theorem rg_neg (s : ByteArray) (w : World) (h1 : (s.toList == [78, 85, 76, 76]) = false) (h2 : (s.toList == [84, 82, 85, 69]) = false) (h3 : (s.toList == [70, 65, 76, 83, 69]) = false) (hpos : 0 < s.size) (hl : 1 < s.size) (hneg : s[0].toNat = 45) (hl2 : s.size ≤ 1048576) (G : Nat) (hG : G = (18446744073709551616 - rdN s.data.toList) % 18446744073709551616)
    (x : ByteArray) (E F : Int) (R : Value) (hp : ∀ W, Calls Tryz.prog 5 #[.agg #[.int .i64 1, .int .i64 (i64of G), .string ⟨#[]⟩, .bool false]] W fun e w' => e = .returned (.tuple #[.string x, .int .i64 E]) ∧ Below W.heap.size W w')
    (hm : Made s x E (.agg #[.int .i64 1, .int .i64 (i64of G), .string ⟨#[]⟩, .bool false]) R F) :
    Calls Tryz.prog 7 #[.string s] w fun e w' => e = .returned (.tuple #[R, .int .i64 F]) ∧ Below w.heap.size w w' := by
  have HP := Lib.hid hp
  have HM := Lib.hid hm
  have HG := Lib.hid hG
  have hng : ((((s[0].toNat : Nat) : Int) == 45)) = true := by rw [hneg]; rfl
  have HI : Hid (∀ W, Calls Tryz.prog 10 #[.int .i64 (i64of G)] W fun e w' => e = .returned (.agg #[.int .i64 1, .int .i64 (i64of G), .string ⟨#[]⟩, .bool false]) ∧ Below W.heap.size W w') := fun W => rint_ _ W
  have F0 := Lib.hid (frv_start w 23)
  clear hp hm hG
  go_enter Tryz.func7, Tryz.ntmps7
  go_wp2_with fail
  generalize ((w.alloc (.cells #[.int .i64 0, .int .i64 0, .string ⟨#[]⟩, .bool false] 23)).alloc (.cells #[.int .i64 0, .int .i64 0, .string ⟨#[]⟩, .bool false] 23)) = w0 at *
  go_loopw [7, 9] (fun nv iv wr => ∃ (i N : Nat), (i ≤ s.size ∧ N < 18446744073709551616 ∧ (20 < s.size → i = 0)) ∧ Hid (N = (s.data.toList.take i).foldl rd 0) ∧ nv = .int .u64 N ∧ iv = .int .i64 i ∧ wr = w0) (fun _ iv _ => s.size - (intOf iv).toNat)
  case atStart =>
    exact ⟨0, 0, ⟨Nat.zero_le _, by decide, fun _ => rfl⟩, by simp [Hid], rfl, rfl, rfl⟩
  case round =>
    obtain ⟨i, N, ⟨hi, hN, hi0⟩, HN, rfl, rfl, rfl⟩ := hrel
    by_cases hlt : i < s.size ∧ s.size ≤ 20
    · obtain ⟨hlt, h20⟩ := hlt
      have hlt2 : (i : Int) < (s.size : Int) := by omega
      have HT : Hid (s.data.toList.take (i + 1) = s.data.toList.take i ++ [s[i]]) := take_byte hlt
      by_cases hd : 48 ≤ s[i].toNat ∧ s[i].toNat ≤ 57
      · obtain ⟨hd1, hd2⟩ := hd
        go_wp2_with fail
        go_roundw
        case rel =>
          refine ⟨i + 1, rd N s[i], ⟨by omega, rd_lt hN, fun h => by omega⟩, ?_, ?_, by go_num, trivial⟩
          · show _ = _
            rw [HT.out, List.foldl_append, ← HN.out]; rfl
          · rw [rd_dig hd1 hd2]
        case measure => simp [intOf]; omega
      · have HR : Hid (rd N s[i] = N) := rd_no hd
        rcases (by omega : s[i].toNat < 48 ∨ (48 ≤ s[i].toNat ∧ 57 < s[i].toNat)) with hd1 | ⟨hd1, hd2⟩
        all_goals
          go_wp2_with fail
          go_roundw
          case rel =>
            refine ⟨i + 1, N, ⟨by omega, hN, fun h => by omega⟩, ?_, rfl, by go_num, trivial⟩
            show _ = _
            rw [HT.out, List.foldl_append, ← HN.out]; exact HR.out.symm
          case measure => simp [intOf]; omega
    · have HE : Hid (wrap64 (IntKind.u64.wrap (-(N : Int))) = i64of G) := by
        show _ = _
        rw [HG.out, i64of_neg (rdN_lt _), rdN_end hi0 hlt, ← HN.out]
      have F1 := F0
      rcases (by omega : (i < s.size ∧ 20 < s.size) ∨ ¬ i < s.size) with ⟨hA, hB⟩ | hA
      · have hA2 : (i : Int) < (s.size : Int) := by omega
        clear hlt hi0 HN
        go_wp2_with fail
        rw [HE.out]
        refine (HI.out _).mono ?_
        rintro e w3 ⟨rfl, hb3⟩
        obtain ⟨⟨⟨r0, r1, r2, r3⟩, ⟨f0, f1, f2, f3⟩, hbw, hsz⟩, ⟨p0, p1, p2, p3⟩, ⟨g0, g1, g2, g3⟩, hs2⟩ := F1.out.on hb3
        go_wp2_with fail
        refine (HP.out _).mono ?_
        rintro e w4 ⟨rfl, hb4⟩
        clear r0 r1 r2 r3 f0 f1 f2 f3 hbw hsz p0 p1 p2 p3 g0 g1 g2 g3 hs2
        obtain ⟨⟨⟨r0, r1, r2, r3⟩, ⟨f0, f1, f2, f3⟩, hbw, hsz⟩, ⟨p0, p1, p2, p3⟩, ⟨g0, g1, g2, g3⟩, hs2⟩ := ((F1.out.on hb3).set 1 (i64of G) ⟨#[]⟩ false).on hb4
        rcases HM.out with ⟨rfl, rfl, rfl, rfl⟩ | ⟨hE, rfl, rfl⟩ | ⟨rfl, hE, rfl, rfl⟩
        · have hxx : (x.toList == x.toList) = true := by simp
          go_wp2_with fail
          refine bodyPost_ret (v := .tuple #[.agg #[.int .i64 1, .int .i64 (i64of G), .string ⟨#[]⟩, .bool false], .int .i64 0]) ?_ rfl ⟨rfl, four_set hbw (w.heap.size) (by omega) _ _ _ _⟩
          simp [results, Tryz.results7, go_sem, r0, r1, r2, r3]
        · have hE1 : (E == 0) = false := by simpa using hE
          go_wp2_with fail
          refine bodyPost_ret (v := .tuple #[.agg #[.int .i64 0, .int .i64 0, .string ⟨#[]⟩, .bool false], .int .i64 3]) ?_ rfl ⟨rfl, four_set hbw (w.heap.size) (by omega) _ _ _ _⟩
          simp [results, Tryz.results7, go_sem, r0, r1, r2, r3]
        · go_wp2_with fail
          refine bodyPost_ret (v := .tuple #[.agg #[.int .i64 0, .int .i64 0, .string ⟨#[]⟩, .bool false], .int .i64 3]) ?_ rfl ⟨rfl, four_set hbw (w.heap.size) (by omega) _ _ _ _⟩
          simp [results, Tryz.results7, go_sem, r0, r1, r2, r3]
      · have hA2 : ¬ (i : Int) < (s.size : Int) := by omega
        clear hlt hi0 HN
        go_wp2_with fail
        rw [HE.out]
        refine (HI.out _).mono ?_
        rintro e w3 ⟨rfl, hb3⟩
        obtain ⟨⟨⟨r0, r1, r2, r3⟩, ⟨f0, f1, f2, f3⟩, hbw, hsz⟩, ⟨p0, p1, p2, p3⟩, ⟨g0, g1, g2, g3⟩, hs2⟩ := F1.out.on hb3
        go_wp2_with fail
        refine (HP.out _).mono ?_
        rintro e w4 ⟨rfl, hb4⟩
        clear r0 r1 r2 r3 f0 f1 f2 f3 hbw hsz p0 p1 p2 p3 g0 g1 g2 g3 hs2
        obtain ⟨⟨⟨r0, r1, r2, r3⟩, ⟨f0, f1, f2, f3⟩, hbw, hsz⟩, ⟨p0, p1, p2, p3⟩, ⟨g0, g1, g2, g3⟩, hs2⟩ := ((F1.out.on hb3).set 1 (i64of G) ⟨#[]⟩ false).on hb4
        rcases HM.out with ⟨rfl, rfl, rfl, rfl⟩ | ⟨hE, rfl, rfl⟩ | ⟨rfl, hE, rfl, rfl⟩
        · have hxx : (x.toList == x.toList) = true := by simp
          go_wp2_with fail
          refine bodyPost_ret (v := .tuple #[.agg #[.int .i64 1, .int .i64 (i64of G), .string ⟨#[]⟩, .bool false], .int .i64 0]) ?_ rfl ⟨rfl, four_set hbw (w.heap.size) (by omega) _ _ _ _⟩
          simp [results, Tryz.results7, go_sem, r0, r1, r2, r3]
        · have hE1 : (E == 0) = false := by simpa using hE
          go_wp2_with fail
          refine bodyPost_ret (v := .tuple #[.agg #[.int .i64 0, .int .i64 0, .string ⟨#[]⟩, .bool false], .int .i64 3]) ?_ rfl ⟨rfl, four_set hbw (w.heap.size) (by omega) _ _ _ _⟩
          simp [results, Tryz.results7, go_sem, r0, r1, r2, r3]
        · go_wp2_with fail
          refine bodyPost_ret (v := .tuple #[.agg #[.int .i64 0, .int .i64 0, .string ⟨#[]⟩, .bool false], .int .i64 3]) ?_ rfl ⟨rfl, four_set hbw (w.heap.size) (by omega) _ _ _ _⟩
          simp [results, Tryz.results7, go_sem, r0, r1, r2, r3]
set_option maxHeartbeats 1000000 in
theorem rg_pos1 (s : ByteArray) (w : World) (h1 : (s.toList == [78, 85, 76, 76]) = false) (h2 : (s.toList == [84, 82, 85, 69]) = false) (h3 : (s.toList == [70, 65, 76, 83, 69]) = false) (hpos : 0 < s.size) (hl : ¬ 1 < s.size) (hneg : ¬ s[0].toNat = 45) (hl2 : s.size ≤ 1048576) (G : Nat) (hG : G = rdN s.data.toList)
    (x : ByteArray) (E F : Int) (R : Value) (hp : ∀ W, Calls Tryz.prog 5 #[.agg #[.int .i64 1, .int .i64 (i64of G), .string ⟨#[]⟩, .bool false]] W fun e w' => e = .returned (.tuple #[.string x, .int .i64 E]) ∧ Below W.heap.size W w')
    (hm : Made s x E (.agg #[.int .i64 1, .int .i64 (i64of G), .string ⟨#[]⟩, .bool false]) R F) :
    Calls Tryz.prog 7 #[.string s] w fun e w' => e = .returned (.tuple #[R, .int .i64 F]) ∧ Below w.heap.size w w' := by
  have HP := Lib.hid hp
  have HM := Lib.hid hm
  have HG := Lib.hid hG
  have hng : ((((s[0].toNat : Nat) : Int) == 45)) = false := by simp; omega
  have HI : Hid (∀ W, Calls Tryz.prog 10 #[.int .i64 (i64of G)] W fun e w' => e = .returned (.agg #[.int .i64 1, .int .i64 (i64of G), .string ⟨#[]⟩, .bool false]) ∧ Below W.heap.size W w') := fun W => rint_ _ W
  have F0 := Lib.hid (frv_start w 23)
  clear hp hm hG
  go_enter Tryz.func7, Tryz.ntmps7
  go_wp2_with fail
  generalize ((w.alloc (.cells #[.int .i64 0, .int .i64 0, .string ⟨#[]⟩, .bool false] 23)).alloc (.cells #[.int .i64 0, .int .i64 0, .string ⟨#[]⟩, .bool false] 23)) = w0 at *
  go_loopw [7, 9] (fun nv iv wr => ∃ (i N : Nat), (i ≤ s.size ∧ N < 18446744073709551616 ∧ (20 < s.size → i = 0)) ∧ Hid (N = (s.data.toList.take i).foldl rd 0) ∧ nv = .int .u64 N ∧ iv = .int .i64 i ∧ wr = w0) (fun _ iv _ => s.size - (intOf iv).toNat)
  case atStart =>
    exact ⟨0, 0, ⟨Nat.zero_le _, by decide, fun _ => rfl⟩, by simp [Hid], rfl, rfl, rfl⟩
  case round =>
    obtain ⟨i, N, ⟨hi, hN, hi0⟩, HN, rfl, rfl, rfl⟩ := hrel
    by_cases hlt : i < s.size ∧ s.size ≤ 20
    · obtain ⟨hlt, h20⟩ := hlt
      have hlt2 : (i : Int) < (s.size : Int) := by omega
      have HT : Hid (s.data.toList.take (i + 1) = s.data.toList.take i ++ [s[i]]) := take_byte hlt
      by_cases hd : 48 ≤ s[i].toNat ∧ s[i].toNat ≤ 57
      · obtain ⟨hd1, hd2⟩ := hd
        go_wp2_with fail
        go_roundw
        case rel =>
          refine ⟨i + 1, rd N s[i], ⟨by omega, rd_lt hN, fun h => by omega⟩, ?_, ?_, by go_num, trivial⟩
          · show _ = _
            rw [HT.out, List.foldl_append, ← HN.out]; rfl
          · rw [rd_dig hd1 hd2]
        case measure => simp [intOf]; omega
      · have HR : Hid (rd N s[i] = N) := rd_no hd
        rcases (by omega : s[i].toNat < 48 ∨ (48 ≤ s[i].toNat ∧ 57 < s[i].toNat)) with hd1 | ⟨hd1, hd2⟩
        all_goals
          go_wp2_with fail
          go_roundw
          case rel =>
            refine ⟨i + 1, N, ⟨by omega, hN, fun h => by omega⟩, ?_, rfl, by go_num, trivial⟩
            show _ = _
            rw [HT.out, List.foldl_append, ← HN.out]; exact HR.out.symm
          case measure => simp [intOf]; omega
    · have HE : Hid (wrap64 (N : Int) = i64of G) := by
        show _ = _
        rw [HG.out, i64of_pos (rdN_lt _), rdN_end hi0 hlt, ← HN.out]
      have F1 := F0
      rcases (by omega : (i < s.size ∧ 20 < s.size) ∨ ¬ i < s.size) with ⟨hA, hB⟩ | hA
      · exact absurd hB (by omega)
      · have hA2 : ¬ (i : Int) < (s.size : Int) := by omega
        clear hlt hi0 HN
        go_wp2_with fail
        rw [HE.out]
        refine (HI.out _).mono ?_
        rintro e w3 ⟨rfl, hb3⟩
        obtain ⟨⟨⟨r0, r1, r2, r3⟩, ⟨f0, f1, f2, f3⟩, hbw, hsz⟩, ⟨p0, p1, p2, p3⟩, ⟨g0, g1, g2, g3⟩, hs2⟩ := F1.out.on hb3
        go_wp2_with fail
        refine (HP.out _).mono ?_
        rintro e w4 ⟨rfl, hb4⟩
        clear r0 r1 r2 r3 f0 f1 f2 f3 hbw hsz p0 p1 p2 p3 g0 g1 g2 g3 hs2
        obtain ⟨⟨⟨r0, r1, r2, r3⟩, ⟨f0, f1, f2, f3⟩, hbw, hsz⟩, ⟨p0, p1, p2, p3⟩, ⟨g0, g1, g2, g3⟩, hs2⟩ := ((F1.out.on hb3).set 1 (i64of G) ⟨#[]⟩ false).on hb4
        rcases HM.out with ⟨rfl, rfl, rfl, rfl⟩ | ⟨hE, rfl, rfl⟩ | ⟨rfl, hE, rfl, rfl⟩
        · have hxx : (x.toList == x.toList) = true := by simp
          go_wp2_with fail
          refine bodyPost_ret (v := .tuple #[.agg #[.int .i64 1, .int .i64 (i64of G), .string ⟨#[]⟩, .bool false], .int .i64 0]) ?_ rfl ⟨rfl, four_set hbw (w.heap.size) (by omega) _ _ _ _⟩
          simp [results, Tryz.results7, go_sem, r0, r1, r2, r3]
        · have hE1 : (E == 0) = false := by simpa using hE
          go_wp2_with fail
          refine bodyPost_ret (v := .tuple #[.agg #[.int .i64 0, .int .i64 0, .string ⟨#[]⟩, .bool false], .int .i64 3]) ?_ rfl ⟨rfl, four_set hbw (w.heap.size) (by omega) _ _ _ _⟩
          simp [results, Tryz.results7, go_sem, r0, r1, r2, r3]
        · go_wp2_with fail
          refine bodyPost_ret (v := .tuple #[.agg #[.int .i64 0, .int .i64 0, .string ⟨#[]⟩, .bool false], .int .i64 3]) ?_ rfl ⟨rfl, four_set hbw (w.heap.size) (by omega) _ _ _ _⟩
          simp [results, Tryz.results7, go_sem, r0, r1, r2, r3]
set_option maxHeartbeats 1000000 in
theorem rg_neg1 (s : ByteArray) (w : World) (h1 : (s.toList == [78, 85, 76, 76]) = false) (h2 : (s.toList == [84, 82, 85, 69]) = false) (h3 : (s.toList == [70, 65, 76, 83, 69]) = false) (hpos : 0 < s.size) (hl : ¬ 1 < s.size) (hneg : s[0].toNat = 45) (hl2 : s.size ≤ 1048576) (G : Nat) (hG : G = (18446744073709551616 - rdN s.data.toList) % 18446744073709551616)
    (x : ByteArray) (E F : Int) (R : Value) (hp : ∀ W, Calls Tryz.prog 5 #[.agg #[.int .i64 1, .int .i64 (i64of G), .string ⟨#[]⟩, .bool false]] W fun e w' => e = .returned (.tuple #[.string x, .int .i64 E]) ∧ Below W.heap.size W w')
    (hm : Made s x E (.agg #[.int .i64 1, .int .i64 (i64of G), .string ⟨#[]⟩, .bool false]) R F) :
    Calls Tryz.prog 7 #[.string s] w fun e w' => e = .returned (.tuple #[R, .int .i64 F]) ∧ Below w.heap.size w w' := by
  have HP := Lib.hid hp
  have HM := Lib.hid hm
  have HG := Lib.hid hG
  have hng : ((((s[0].toNat : Nat) : Int) == 45)) = true := by rw [hneg]; rfl
  have HI : Hid (∀ W, Calls Tryz.prog 10 #[.int .i64 (i64of G)] W fun e w' => e = .returned (.agg #[.int .i64 1, .int .i64 (i64of G), .string ⟨#[]⟩, .bool false]) ∧ Below W.heap.size W w') := fun W => rint_ _ W
  have F0 := Lib.hid (frv_start w 23)
  clear hp hm hG
  go_enter Tryz.func7, Tryz.ntmps7
  go_wp2_with fail
  generalize ((w.alloc (.cells #[.int .i64 0, .int .i64 0, .string ⟨#[]⟩, .bool false] 23)).alloc (.cells #[.int .i64 0, .int .i64 0, .string ⟨#[]⟩, .bool false] 23)) = w0 at *
  go_loopw [7, 9] (fun nv iv wr => ∃ (i N : Nat), (i ≤ s.size ∧ N < 18446744073709551616 ∧ (20 < s.size → i = 0)) ∧ Hid (N = (s.data.toList.take i).foldl rd 0) ∧ nv = .int .u64 N ∧ iv = .int .i64 i ∧ wr = w0) (fun _ iv _ => s.size - (intOf iv).toNat)
  case atStart =>
    exact ⟨0, 0, ⟨Nat.zero_le _, by decide, fun _ => rfl⟩, by simp [Hid], rfl, rfl, rfl⟩
  case round =>
    obtain ⟨i, N, ⟨hi, hN, hi0⟩, HN, rfl, rfl, rfl⟩ := hrel
    by_cases hlt : i < s.size ∧ s.size ≤ 20
    · obtain ⟨hlt, h20⟩ := hlt
      have hlt2 : (i : Int) < (s.size : Int) := by omega
      have HT : Hid (s.data.toList.take (i + 1) = s.data.toList.take i ++ [s[i]]) := take_byte hlt
      by_cases hd : 48 ≤ s[i].toNat ∧ s[i].toNat ≤ 57
      · obtain ⟨hd1, hd2⟩ := hd
        go_wp2_with fail
        go_roundw
        case rel =>
          refine ⟨i + 1, rd N s[i], ⟨by omega, rd_lt hN, fun h => by omega⟩, ?_, ?_, by go_num, trivial⟩
          · show _ = _
            rw [HT.out, List.foldl_append, ← HN.out]; rfl
          · rw [rd_dig hd1 hd2]
        case measure => simp [intOf]; omega
      · have HR : Hid (rd N s[i] = N) := rd_no hd
        rcases (by omega : s[i].toNat < 48 ∨ (48 ≤ s[i].toNat ∧ 57 < s[i].toNat)) with hd1 | ⟨hd1, hd2⟩
        all_goals
          go_wp2_with fail
          go_roundw
          case rel =>
            refine ⟨i + 1, N, ⟨by omega, hN, fun h => by omega⟩, ?_, rfl, by go_num, trivial⟩
            show _ = _
            rw [HT.out, List.foldl_append, ← HN.out]; exact HR.out.symm
          case measure => simp [intOf]; omega
    · have HE : Hid (wrap64 (IntKind.u64.wrap (-(N : Int))) = i64of G) := by
        show _ = _
        rw [HG.out, i64of_neg (rdN_lt _), rdN_end hi0 hlt, ← HN.out]
      have F1 := F0
      rcases (by omega : (i < s.size ∧ 20 < s.size) ∨ ¬ i < s.size) with ⟨hA, hB⟩ | hA
      · exact absurd hB (by omega)
      · have hA2 : ¬ (i : Int) < (s.size : Int) := by omega
        clear hlt hi0 HN
        go_wp2_with fail
        rw [HE.out]
        refine (HI.out _).mono ?_
        rintro e w3 ⟨rfl, hb3⟩
        obtain ⟨⟨⟨r0, r1, r2, r3⟩, ⟨f0, f1, f2, f3⟩, hbw, hsz⟩, ⟨p0, p1, p2, p3⟩, ⟨g0, g1, g2, g3⟩, hs2⟩ := F1.out.on hb3
        go_wp2_with fail
        refine (HP.out _).mono ?_
        rintro e w4 ⟨rfl, hb4⟩
        clear r0 r1 r2 r3 f0 f1 f2 f3 hbw hsz p0 p1 p2 p3 g0 g1 g2 g3 hs2
        obtain ⟨⟨⟨r0, r1, r2, r3⟩, ⟨f0, f1, f2, f3⟩, hbw, hsz⟩, ⟨p0, p1, p2, p3⟩, ⟨g0, g1, g2, g3⟩, hs2⟩ := ((F1.out.on hb3).set 1 (i64of G) ⟨#[]⟩ false).on hb4
        rcases HM.out with ⟨rfl, rfl, rfl, rfl⟩ | ⟨hE, rfl, rfl⟩ | ⟨rfl, hE, rfl, rfl⟩
        · have hxx : (x.toList == x.toList) = true := by simp
          go_wp2_with fail
          refine bodyPost_ret (v := .tuple #[.agg #[.int .i64 1, .int .i64 (i64of G), .string ⟨#[]⟩, .bool false], .int .i64 0]) ?_ rfl ⟨rfl, four_set hbw (w.heap.size) (by omega) _ _ _ _⟩
          simp [results, Tryz.results7, go_sem, r0, r1, r2, r3]
        · have hE1 : (E == 0) = false := by simpa using hE
          go_wp2_with fail
          refine bodyPost_ret (v := .tuple #[.agg #[.int .i64 0, .int .i64 0, .string ⟨#[]⟩, .bool false], .int .i64 3]) ?_ rfl ⟨rfl, four_set hbw (w.heap.size) (by omega) _ _ _ _⟩
          simp [results, Tryz.results7, go_sem, r0, r1, r2, r3]
        · go_wp2_with fail
          refine bodyPost_ret (v := .tuple #[.agg #[.int .i64 0, .int .i64 0, .string ⟨#[]⟩, .bool false], .int .i64 3]) ?_ rfl ⟨rfl, four_set hbw (w.heap.size) (by omega) _ _ _ _⟩
          simp [results, Tryz.results7, go_sem, r0, r1, r2, r3]
theorem rg_none (w : World) (hp : ∀ W, Calls Tryz.prog 5 #[.agg #[.int .i64 1, .int .i64 0, .string ⟨#[]⟩, .bool false]] W fun e w' => e = .returned (.tuple #[.string ⟨#[48]⟩, .int .i64 0]) ∧ Below W.heap.size W w') :
    Calls Tryz.prog 7 #[.string ⟨#[]⟩] w fun e w' => e = .returned (.tuple #[.agg #[.int .i64 0, .int .i64 0, .string ⟨#[]⟩, .bool false], .int .i64 3]) ∧ Below w.heap.size w w' := by
  have HP := Lib.hid hp
  have HI : Hid (∀ W, Calls Tryz.prog 10 #[.int .i64 0] W fun e w' => e = .returned (.agg #[.int .i64 1, .int .i64 0, .string ⟨#[]⟩, .bool false]) ∧ Below W.heap.size W w') := fun W => rint_ _ W
  have F0 := Lib.hid (frv_start w 23)
  clear hp
  go_enter Tryz.func7, Tryz.ntmps7
  go_wp2_with fail
  generalize ((w.alloc (.cells #[.int .i64 0, .int .i64 0, .string ⟨#[]⟩, .bool false] 23)).alloc (.cells #[.int .i64 0, .int .i64 0, .string ⟨#[]⟩, .bool false] 23)) = w0 at *
  go_loopw [7, 9] (fun nv iv wr => nv = .int .u64 0 ∧ iv = .int .i64 0 ∧ wr = w0) (fun _ _ _ => 0)
  case atStart => exact ⟨rfl, rfl, rfl⟩
  case round =>
    obtain ⟨rfl, rfl, rfl⟩ := hrel
    have F1 := F0
    go_wp2_with fail
    refine (HI.out _).mono ?_
    rintro e w3 ⟨rfl, hb3⟩
    obtain ⟨⟨⟨r0, r1, r2, r3⟩, ⟨f0, f1, f2, f3⟩, hbw, hsz⟩, ⟨p0, p1, p2, p3⟩, ⟨g0, g1, g2, g3⟩, hs2⟩ := F1.out.on hb3
    go_wp2_with fail
    refine (HP.out _).mono ?_
    rintro e w4 ⟨rfl, hb4⟩
    clear r0 r1 r2 r3 f0 f1 f2 f3 hbw hsz p0 p1 p2 p3 g0 g1 g2 g3 hs2
    obtain ⟨⟨⟨r0, r1, r2, r3⟩, ⟨f0, f1, f2, f3⟩, hbw, hsz⟩, ⟨p0, p1, p2, p3⟩, ⟨g0, g1, g2, g3⟩, hs2⟩ := ((F1.out.on hb3).set 1 0 ⟨#[]⟩ false).on hb4
    go_wp2_with fail
    refine bodyPost_ret (v := .tuple #[.agg #[.int .i64 0, .int .i64 0, .string ⟨#[]⟩, .bool false], .int .i64 3]) ?_ rfl ⟨rfl, four_set hbw (w.heap.size) (by omega) _ _ _ _⟩
    simp [results, Tryz.results7, go_sem, r0, r1, r2, r3]
end Go.Proofs.YtfplncbechidnaaGreatDoor
