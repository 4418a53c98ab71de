/- The walk of the law OrderKeeps, where the texts are: gt. -/
import Derived.Test.YtonbecjankghaaaKeepsWalk
namespace Go.Proofs.Ytonbecjankghaaa
open Go.RowKit Go.Sort

set_option maxRecDepth 100000 in
set_option maxHeartbeats 4000000 in
theorem keeps_gt (a a' : Option Addr) (c c' : Nat) (at_ : Int) (xs ys : List Val) (w : World) (h : ValsIn w a xs) (h' : ValsIn w a' ys) (hw : ∀ x ∈ xs, inI x.n) (hw' : ∀ x ∈ ys, inI x.n) (hlen : xs.length * 40 ≤ 140737488355328) (hlen' : ys.length * 40 ≤ 140737488355328) (hnil : a = none → c = 0) (hnil' : a' = none → c' = 0) (hcap : xs.length ≤ c) (hm : ∃ m, w.cell? ⟨0, 0, none⟩ = some (.int .i64 m)) (hat : inI at_) (hE0 : errL xs = 0) (hE1 : errL ys = 0) (SX SY : ByteArray) (hSX : ⟨(encL xs).toArray⟩ = SX) (hSY : ⟨(encL ys).toArray⟩ = SY)
    (h1 : Op.bytesLess SX.toList SY.toList = false) (h2 : (SX.toList == SY.toList) = false) (hD : cmpL xs ys = 1) :
    Calls Try.prog 4 #[.slice a xs.length c, .slice a' ys.length c', .int .i64 at_] w fun e w' => e = .returned (.bool true) ∧ Below w.heap.size w w' := by
  have hX0 : txtL xs = encL xs := by rw [txtL, hE0, if_pos rfl]
  have hY0 : txtL ys = encL ys := by rw [txtL, hE1, if_pos rfl]
  have HI := Lib.hid h
  have HI' := Lib.hid h'
  have HT := Lib.hid (twin_ a c xs w h hlen hnil)
  have HT' : Hid (∀ W, ValsIn W a' ys → Calls Try.prog 7 #[.slice a' ys.length c'] W fun e w' => ∃ a1 c1, e = .returned (.slice a1 ys.length c1) ∧ ValsIn w' a1 ys ∧ (a1 = none → c1 = 0) ∧ Below W.heap.size W w') := fun W hW => twin_ a' c' ys W hW hlen' hnil'
  have HE : Hid (∀ W a1 c1, ValsIn W a1 xs → Calls Try.prog 10 #[.slice a1 xs.length c1] W fun e w' => e = .returned (.tuple #[.string SX, .nilIface]) ∧ Below W.heap.size W w') := fun W a1 c1 h1 => by
    have := encode_ a1 c1 xs W h1 hw (by omega)
    rw [hE0, hX0, errV, if_pos rfl, hSX] at this
    exact this
  have HE' : Hid (∀ W a1 c1, ValsIn W a1 ys → Calls Try.prog 10 #[.slice a1 ys.length c1] W fun e w' => e = .returned (.tuple #[.string SY, .nilIface]) ∧ Below W.heap.size W w') := fun W a1 c1 h1 => by
    have := encode_ a1 c1 ys W h1 hw' (by omega)
    rw [hE1, hY0, errV, if_pos rfl, hSY] at this
    exact this
  have HS : Hid (∀ W, Calls Try.prog 9 #[] W fun e w' => e = .returned (.bool true) ∧ Below W.heap.size W w') := fun W => sure_ W
  have hlx : xs.length ≤ 16 := ((errL_zero xs).1 hE0).2
  have hSXl : SX.data.toList = encL xs := by rw [← hSX]
  have hSXs : SX.size ≤ 65568 := by
    rw [size_list, hSXl]
    have := encL_len xs ((errL_zero xs).1 hE0).1
    omega
  have HDc : Hid (∀ W, Below w.heap.size w W → Calls Try.prog 12 #[.string SX] W fun e w' => ∃ ax cx, e = .returned (.tuple #[.slice ax xs.length cx, .nilIface]) ∧ ValsIn w' ax xs ∧ Below W.heap.size W w') := fun W hW => by
    have hT : IsTxt SX.data.toList xs := ⟨fun v hv => ⟨((errL_zero xs).1 hE0).1 v hv, hw v hv⟩, hlx, hSXl⟩
    refine (decode_ SX W (by omega) (by obtain ⟨m, hm⟩ := hm; exact ⟨m, (hW.cell (block_lt_of_cell hm)).trans hm⟩)).mono ?_
    rintro e w' ⟨⟨l, a1, c1, hl, he, hi⟩ | ⟨hno, _⟩, hb⟩
    · obtain rfl := hl.unique hT
      exact ⟨a1, c1, he, hi, hb⟩
    · exact absurd hT (hno _)
  obtain ⟨n, hn⟩ : ∃ n : Nat, n = (at_ % 18446744073709551616).toNat % (xs.length + 1) := ⟨_, rfl⟩
  have hnl : n ≤ xs.length := by rw [hn]; have := Nat.mod_lt (at_ % 18446744073709551616).toNat (show 0 < xs.length + 1 by omega); omega
  obtain ⟨SB, hSB⟩ : ∃ S : ByteArray, ⟨(encL (xs.take n)).toArray⟩ = S := ⟨_, rfl⟩
  have hpre : SB.data.toList <+: SX.data.toList := by rw [hSXl, ← hSB]; exact enc_begin xs n
  have hbl : SB.size ≤ SX.size := by rw [size_list, size_list]; exact hpre.length_le
  have hbe : SX.extract 0 SB.size = SB := by
    apply ba_ext
    rw [ext8, size_list]
    exact (List.prefix_iff_eq_take.1 hpre).symm
  have hbl2 : (SB.size : Int) ≤ (SX.size : Int) := by omega
  have htl : (xs.take n).length = n := by rw [List.length_take]; omega
  have HTn : Hid (∀ W, ValsIn W a xs → Calls Try.prog 7 #[.slice a n c] W fun e w' => ∃ a1 c1, e = .returned (.slice a1 n c1) ∧ ValsIn w' a1 (xs.take n) ∧ Below W.heap.size W w') := fun W hW => by
    have := twin_ a c (xs.take n) W (take_in hW n) (by rw [htl]; omega) hnil
    rw [htl] at this
    exact this.mono fun e w' ⟨a1, c1, he, hi, _, hb⟩ => ⟨a1, c1, he, hi, hb⟩
  have HEn : Hid (∀ W a1 c1, ValsIn W a1 (xs.take n) → Calls Try.prog 10 #[.slice a1 n c1] W fun e w' => e = .returned (.tuple #[.string SB, .nilIface]) ∧ Below W.heap.size W w') := fun W a1 c1 hh => by
    have := encode_ a1 c1 (xs.take n) W hh (fun x hx => hw x (List.mem_of_mem_take hx)) (by rw [htl]; omega)
    rw [htl, err_take hE0, txtL, err_take hE0, if_pos rfl, errV, if_pos rfl, hSB] at this
    exact this
  have HVs : Hid (∀ W a1 c1, ValsIn W a1 xs → ValsIn W a xs → Calls Try.prog 13 #[.slice a1 xs.length c1, .slice a xs.length c] W fun e w' => e = .returned (.bool true) ∧ Below W.heap.size W w') := fun W a1 c1 i1 i2 => values_ a1 a c1 c xs W i1 i2 (by omega)
  have HD := Lib.hid hD
  have HNA := Lib.hid hat
  have hnN : wrap64 ((IntKind.u64.wrap at_).tmod ((xs.length : Int) + 1)) = (n : Int) := by
    have e0 : IntKind.u64.wrap at_ = at_ % 18446744073709551616 := rfl
    have h0 : 0 ≤ at_ % 18446744073709551616 := Int.emod_nonneg _ (by decide)
    have e1 : (at_ % 18446744073709551616).tmod ((xs.length : Int) + 1) = (n : Int) := by
      rw [Int.tmod_eq_emod_of_nonneg h0, hn, Int.natCast_emod, Int.toNat_of_nonneg h0]
      rfl
    rw [e0, e1]
    unfold wrap64
    omega
  have hsl0 : (if c = 0 then a else Option.map (fun x => x.add 0) a) = a := by
    split
    · rfl
    · cases a <;> rfl
  have hnc : (n : Int) ≤ (c : Int) := by omega
  have hn0 : (0 : Int) ≤ (n : Int) := by omega
  generalize hL : xs.length = L at *
  generalize hM : ys.length = M at *
  have HL := Lib.hid hL
  have HM := Lib.hid hM
  clear h h' hnil' hD hL hM hw hw' hnil hE0 hE1 hX0 hY0 hSXl hpre hSX hSY htl hSB hm hn hat
  go_enter Try.func4, Try.ntmps4
  go_wp2_with fail
  refine HT.out.mono ?_
  rintro e w1 ⟨a1, c1, rfl, i1, _, b1⟩
  have HI1 := Lib.hid i1
  have HB1 := Lib.hid b1
  clear i1 b1 HT
  go_wp2_with fail
  refine (HE.out _ _ _ HI1.out).mono ?_
  rintro e w2 ⟨rfl, b2⟩
  have HB2 := Lib.hid (below_step HB1.out b2)
  clear b2 HB1 HI1 HE
  go_wp2_with fail
  refine (HT'.out _ (HI'.out.on HB2.out)).mono ?_
  rintro e w3 ⟨a3, c3, rfl, i3, _, b3⟩
  have HI3 := Lib.hid i3
  have HB3 := Lib.hid (below_step HB2.out b3)
  clear i3 b3 HT' HB2
  go_wp2_with fail
  refine (HE'.out _ _ _ HI3.out).mono ?_
  rintro e w4 ⟨rfl, b4⟩
  have HB4 := Lib.hid (below_step HB3.out b4)
  clear b4 HB3 HI3 HE'
  go_wp2_with fail
  go_loopw [12, 13] (fun wv iv wr => ∃ (i : Nat) (V : Int), i ≤ L ∧ i ≤ M ∧ iv = .int .i64 i ∧ wv = .int .i64 V ∧ Hid ((V = 0 ∧ cmpL (xs.drop i) (ys.drop i) = 1) ∨ (V ≠ 0 ∧ V = 1)) ∧ Hid (Below w.heap.size w wr)) (fun _ iv _ => L - (intOf iv).toNat)
  case atStart => exact ⟨0, 0, Nat.zero_le _, Nat.zero_le _, rfl, rfl, .inl ⟨rfl, HD.out⟩, HB4⟩
  case round =>
    clear HB4
    obtain ⟨i, V, hi, hi', rfl, rfl, HV, HB4⟩ := hrel
    by_cases hv : V = 0
    · subst hv
      by_cases hlt : i < L
      · have hlt2 : (i : Int) < (L : Int) := by omega
        by_cases hlm : i < M
        · have hlm2 : (i : Int) < (M : Int) := by omega
          have hx : i < xs.length := by rw [HL.out]; exact hlt
          have hy : i < ys.length := by rw [HM.out]; exact hlm
          obtain ⟨b, o, rfl, k, n0, t, bb, hvi, hin⟩ := ValsIn.at4 (HI.out.on HB4.out) i hx
          obtain ⟨b', o', rfl, k', n', t', bb', hvi', hin'⟩ := ValsIn.at4 (HI'.out.on HB4.out) i hy
          have HF := cmpL_step hx hy
          have hc0 : cmpL (xs.drop i) (ys.drop i) = 1 := by
            rcases HV.out with ⟨_, e⟩ | ⟨e, _⟩
            · exact e
            · exact absurd rfl e
          rw [hvi, hvi', hc0] at HF
          have HP : Hid (∀ W, Calls Try.prog 11 #[.agg #[.int .i64 k, .int .i64 n0, .string t, .bool bb], .agg #[.int .i64 k', .int .i64 n', .string t', .bool bb']] W fun e w' => e = .returned (.int .i64 (cmpV ⟨k, n0, t, bb⟩ ⟨k', n', t', bb'⟩)) ∧ Below W.heap.size W w') := fun W => comp_ k n0 t bb k' n' t' bb' W
          generalize cmpV ⟨k, n0, t, bb⟩ ⟨k', n', t', bb'⟩ = X at *
          have HR : Hid ((X = 0 ∧ cmpL (xs.drop (i + 1)) (ys.drop (i + 1)) = 1) ∨ (X ≠ 0 ∧ X = 1)) := by
            by_cases h0 : X = 0
            · rw [if_neg (fun e => e h0)] at HF
              exact .inl ⟨h0, HF.symm⟩
            · rw [if_pos h0] at HF
              exact .inr ⟨h0, HF.symm⟩
          have k0 := cell_regrown hin.1
          have k1 := cell_regrown hin.2.1
          have k2 := cell_regrown hin.2.2.1
          have k3 := cell_regrown hin.2.2.2
          have j0 := cell_regrown hin'.1
          have j1 := cell_regrown hin'.2.1
          have j2 := cell_regrown hin'.2.2.1
          have j3 := cell_regrown hin'.2.2.2
          clear hin hin' hvi hvi' HV HF hc0 HDc HTn HEn HVs HS
          go_wp2_with fail
          refine wp_region_quiet_below (by kernel_rfl) (by kernel_rfl) ?_
          repeat (go_big_quiet_step (first | (go_at_call 11; exact Calls.regrown_of (HP.out _))))
          refine wpQuiet_nil ?_
          intro _ hw'
          obtain ⟨⟨dq, osq⟩, hw''⟩ := hw'
          subst hw''
          have HB5 := Lib.hid (below_step HB4.out (below_regrown wr dq osq))
          generalize grow (redrawn wr dq) osq = W2 at *
          clear k0 k1 k2 k3 j0 j1 j2 j3 HB4
          go_wp2_with fail
          go_roundw
          case rel => exact ⟨i + 1, X, by omega, by omega, by go_num, rfl, HR, HB5⟩
          case measure => simp [intOf]; omega
        · have hlm2 : ¬ (i : Int) < (M : Int) := by omega
          have hLM : ((L : Int) != (M : Int)) = true := by simp; omega
          have hLM2 : ¬ (L : Int) < (M : Int) := by omega
          clear HV
          go_wp2_with fail
          refine (HDc.out _ HB4.out).mono ?_
          rintro e w5 ⟨ax, cx, rfl, i5, b5⟩
          have HI5 := Lib.hid i5
          have HB5 := Lib.hid (below_step HB4.out b5)
          clear i5 b5 HB4 HDc
          go_wp2_with fail
          refine (HTn.out _ (HI.out.on HB5.out)).mono ?_
          rintro e w6 ⟨a6, c6, rfl, i6, b6⟩
          have HI6 := Lib.hid i6
          have HB6 := Lib.hid (below_step HB5.out b6)
          have HI56 := Lib.hid (HI5.out.on b6)
          clear i6 b6 HB5 HI5 HTn
          go_wp2_with fail
          refine (HEn.out _ _ _ HI6.out).mono ?_
          rintro e w7 ⟨rfl, b7⟩
          have HB7 := Lib.hid (below_step HB6.out b7)
          have HI57 := Lib.hid (HI56.out.on b7)
          clear b7 HB6 HI6 HI56 HEn
          go_wp2_with fail
          refine (HVs.out _ _ _ HI57.out (HI.out.on HB7.out)).mono ?_
          rintro e w8 ⟨rfl, b8⟩
          have HB8 := Lib.hid (below_step HB7.out b8)
          clear b8 HB7 HI57 HVs
          go_wp2_with fail
          refine (HS.out _).mono ?_
          rintro e w9 ⟨rfl, b9⟩
          have HB9 := Lib.hid (below_step HB8.out b9)
          clear b9 HB8 HS
          go_wp2_with fail
          go_ret
          exact ⟨rfl, HB9.out⟩
      · have hlt2 : ¬ (i : Int) < (L : Int) := by omega
        by_cases hlm : i < M
        · exfalso
          rcases HV.out with ⟨_, e⟩ | ⟨e, _⟩
          · rw [want_end (.inl (by rw [HL.out]; omega)) (by rw [HL.out]; omega) (by rw [HM.out]; omega), HL.out, HM.out] at e
            split at e
            · omega
            · split at e <;> omega
          · exact e rfl
        · exfalso
          rcases HV.out with ⟨_, e⟩ | ⟨e, _⟩
          · rw [want_end (.inl (by rw [HL.out]; omega)) (by rw [HL.out]; omega) (by rw [HM.out]; omega), HL.out, HM.out] at e
            split at e
            · omega
            · split at e <;> omega
          · exact e rfl
    · have hVD : V = 1 := by
        rcases HV.out with ⟨e, _⟩ | ⟨_, e⟩
        · exact absurd e hv
        · exact e
      subst hVD
      clear HV hv
      by_cases hlt : i < L
      · have hlt2 : (i : Int) < (L : Int) := by omega
        by_cases hlm : i < M
        · have hlm2 : (i : Int) < (M : Int) := by omega
          go_wp2_with fail
          refine (HDc.out _ HB4.out).mono ?_
          rintro e w5 ⟨ax, cx, rfl, i5, b5⟩
          have HI5 := Lib.hid i5
          have HB5 := Lib.hid (below_step HB4.out b5)
          clear i5 b5 HB4 HDc
          go_wp2_with fail
          refine (HTn.out _ (HI.out.on HB5.out)).mono ?_
          rintro e w6 ⟨a6, c6, rfl, i6, b6⟩
          have HI6 := Lib.hid i6
          have HB6 := Lib.hid (below_step HB5.out b6)
          have HI56 := Lib.hid (HI5.out.on b6)
          clear i6 b6 HB5 HI5 HTn
          go_wp2_with fail
          refine (HEn.out _ _ _ HI6.out).mono ?_
          rintro e w7 ⟨rfl, b7⟩
          have HB7 := Lib.hid (below_step HB6.out b7)
          have HI57 := Lib.hid (HI56.out.on b7)
          clear b7 HB6 HI6 HI56 HEn
          go_wp2_with fail
          refine (HVs.out _ _ _ HI57.out (HI.out.on HB7.out)).mono ?_
          rintro e w8 ⟨rfl, b8⟩
          have HB8 := Lib.hid (below_step HB7.out b8)
          clear b8 HB7 HI57 HVs
          go_wp2_with fail
          refine (HS.out _).mono ?_
          rintro e w9 ⟨rfl, b9⟩
          have HB9 := Lib.hid (below_step HB8.out b9)
          clear b9 HB8 HS
          go_wp2_with fail
          go_ret
          exact ⟨rfl, HB9.out⟩
        · have hlm2 : ¬ (i : Int) < (M : Int) := by omega
          go_wp2_with fail
          refine (HDc.out _ HB4.out).mono ?_
          rintro e w5 ⟨ax, cx, rfl, i5, b5⟩
          have HI5 := Lib.hid i5
          have HB5 := Lib.hid (below_step HB4.out b5)
          clear i5 b5 HB4 HDc
          go_wp2_with fail
          refine (HTn.out _ (HI.out.on HB5.out)).mono ?_
          rintro e w6 ⟨a6, c6, rfl, i6, b6⟩
          have HI6 := Lib.hid i6
          have HB6 := Lib.hid (below_step HB5.out b6)
          have HI56 := Lib.hid (HI5.out.on b6)
          clear i6 b6 HB5 HI5 HTn
          go_wp2_with fail
          refine (HEn.out _ _ _ HI6.out).mono ?_
          rintro e w7 ⟨rfl, b7⟩
          have HB7 := Lib.hid (below_step HB6.out b7)
          have HI57 := Lib.hid (HI56.out.on b7)
          clear b7 HB6 HI6 HI56 HEn
          go_wp2_with fail
          refine (HVs.out _ _ _ HI57.out (HI.out.on HB7.out)).mono ?_
          rintro e w8 ⟨rfl, b8⟩
          have HB8 := Lib.hid (below_step HB7.out b8)
          clear b8 HB7 HI57 HVs
          go_wp2_with fail
          refine (HS.out _).mono ?_
          rintro e w9 ⟨rfl, b9⟩
          have HB9 := Lib.hid (below_step HB8.out b9)
          clear b9 HB8 HS
          go_wp2_with fail
          go_ret
          exact ⟨rfl, HB9.out⟩
      · have hlt2 : ¬ (i : Int) < (L : Int) := by omega
        go_wp2_with fail
        refine (HDc.out _ HB4.out).mono ?_
        rintro e w5 ⟨ax, cx, rfl, i5, b5⟩
        have HI5 := Lib.hid i5
        have HB5 := Lib.hid (below_step HB4.out b5)
        clear i5 b5 HB4 HDc
        go_wp2_with fail
        refine (HTn.out _ (HI.out.on HB5.out)).mono ?_
        rintro e w6 ⟨a6, c6, rfl, i6, b6⟩
        have HI6 := Lib.hid i6
        have HB6 := Lib.hid (below_step HB5.out b6)
        have HI56 := Lib.hid (HI5.out.on b6)
        clear i6 b6 HB5 HI5 HTn
        go_wp2_with fail
        refine (HEn.out _ _ _ HI6.out).mono ?_
        rintro e w7 ⟨rfl, b7⟩
        have HB7 := Lib.hid (below_step HB6.out b7)
        have HI57 := Lib.hid (HI56.out.on b7)
        clear b7 HB6 HI6 HI56 HEn
        go_wp2_with fail
        refine (HVs.out _ _ _ HI57.out (HI.out.on HB7.out)).mono ?_
        rintro e w8 ⟨rfl, b8⟩
        have HB8 := Lib.hid (below_step HB7.out b8)
        clear b8 HB7 HI57 HVs
        go_wp2_with fail
        refine (HS.out _).mono ?_
        rintro e w9 ⟨rfl, b9⟩
        have HB9 := Lib.hid (below_step HB8.out b9)
        clear b9 HB8 HS
        go_wp2_with fail
        go_ret
        exact ⟨rfl, HB9.out⟩
end Go.Proofs.Ytonbecjankghaaa
