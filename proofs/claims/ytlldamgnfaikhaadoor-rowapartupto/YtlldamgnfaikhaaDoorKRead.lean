/- The walks of pack.canEnd, Uint. -/
import Derived.Test.YtlldamgnfaikhaaDoorKMem
namespace Go.Proofs.YtlldamgnfaikhaaDoor
open Go.RowKit Go.Sort

/-- May it be the last one? -/
def canB (y i : Nat) : Bool := !(decide ((i ≠ 0 ∧ y = 0) ∨ (i = 9 ∧ 1 < y)))
set_option maxHeartbeats 400000 in
theorem canEnd_ (y i : Nat) (w : World) (hy : y < 256) (hi : i < 10) :
    Calls Tryd.prog 65 #[.int .u8 y, .int .i64 i] w fun e w' => e = .returned (.bool (canB y i)) ∧ w' = w := by
  by_cases h0 : i = 0
  · subst h0
    go_enter Tryd.func65, Tryd.ntmps65
    go_wp2
    go_ret
    exact ⟨ret_bool (by simp [canB]), rfl⟩
  · go_enter Tryd.func65, Tryd.ntmps65
    go_wp2
    all_goals (go_ret; refine ⟨ret_bool (Bool.eq_iff_iff.2 ?_), rfl⟩; simp [canB]; omega)
theorem andNot128_all : ∀ x : Fin 256, bits .andNot .u8 (x.val : Int) 128 = ((x.val % 128 : Nat) : Int) := by decide +kernel
theorem andNot128 (y : Nat) (h : y < 256) : bits .andNot .u8 (y : Int) 128 = ((y % 128 : Nat) : Int) := andNot128_all ⟨y, h⟩
theorem and128_all : ∀ x : Fin 256, bits .and .u8 (x.val : Int) 128 = if 128 ≤ x.val then 128 else 0 := by decide +kernel
theorem and128 (y : Nat) (h : y < 256) : bits .and .u8 (y : Int) 128 = if 128 ≤ y then 128 else 0 := and128_all ⟨y, h⟩
/-- Seven bits more. -/
theorem step_bits (X y k : Nat) (hy : y < 256) (hk : k < 10) (hX : X < 128 ^ k) : ∃ N : Nat, bits .or .u64 (X : Int) (IntKind.u64.wrap (IntKind.u64.wrap (bits .andNot .u8 (y : Int) 128) * 2 ^ (7 * k))) = (N : Int) ∧ ((k < 9 ∨ y % 128 ≤ 1) → N = X + y % 128 * 128 ^ k) := by
  have hp : (128 : Nat) ^ k = 2 ^ (7 * k) := by rw [Nat.pow_mul]
  have h9 : (2 : Nat) ^ (7 * k) ≤ 2 ^ 63 := Nat.pow_le_pow_right (by decide) (by omega)
  rw [andNot128 y hy, IntKind.wrap_u64, IntKind.wrap_u64]
  have e1 : (((y % 128 : Nat) : Int) % 18446744073709551616 * 2 ^ (7 * k)) % 18446744073709551616 = ((y % 128 * 2 ^ (7 * k) % 18446744073709551616 : Nat) : Int) := by
    have : ((y % 128 : Nat) : Int) % 18446744073709551616 = ((y % 128 : Nat) : Int) := by omega
    rw [this]
    generalize y % 128 = z
    rw [Int.natCast_emod, Int.natCast_mul, Int.natCast_pow]
    rfl
  rw [e1, (bits_nat .u64 64 (by decide) wraps_u64 X (y % 128 * 2 ^ (7 * k) % 18446744073709551616) (by rw [hp] at hX; omega) (by omega)).2]
  refine ⟨_, rfl, fun hh => ?_⟩
  have hlt : y % 128 * 2 ^ (7 * k) < 18446744073709551616 := by
    rcases hh with hh | hh
    · have h8 : (2 : Nat) ^ (7 * k) ≤ 2 ^ 56 := Nat.pow_le_pow_right (by decide) (by omega)
      have : y % 128 * 2 ^ (7 * k) ≤ 127 * 2 ^ 56 := Nat.mul_le_mul (by omega) h8
      omega
    · have : y % 128 * 2 ^ (7 * k) ≤ 1 * 2 ^ 63 := Nat.mul_le_mul hh h9
      omega
  rw [Nat.mod_eq_of_lt hlt, hp, Nat.or_comm, Nat.mul_comm (y % 128)]
  rw [hp] at hX
  rw [← Nat.two_pow_add_eq_or_of_lt hX, Nat.add_comm]
set_option maxRecDepth 100000 in
set_option maxHeartbeats 2000000 in
theorem uint_ (a : Option Addr) (xs : List Nat) (c : Nat) (w : World) (h : BytesIn w a xs) (hb : ∀ x ∈ xs, x < 256) (hlim : xs.length ≤ 9223372036854775807) :
    Calls Tryd.prog 64 #[.slice a xs.length c] w fun e w' => e = .returned (.tuple #[.int .u64 (rdU xs).1, .int .i64 (rdU xs).2.1, errK (rdU xs).2.2]) ∧ w' = w := by
  have HB := Lib.hid h
  have HA := Lib.hid hb
  obtain ⟨R, hR⟩ : ∃ R, R = rdU xs := ⟨_, rfl⟩
  rw [← hR]
  have HR := Lib.hid hR
  clear h hb hR
  generalize hL : xs.length = len at *
  have HLen := Lib.hid hL
  clear hL
  go_enter Tryd.func64, Tryd.ntmps64
  go_wp2_with fail
  go_loopw [5, 7] (fun nv iv wr => ∃ (k X : Nat), k ≤ 10 ∧ iv = .int .i64 k ∧ nv = .int .u64 X ∧ wr = w ∧ (k < 10 → R = dec X k (xs.drop k) ∧ k ≤ len ∧ X < 128 ^ k) ∧ (k = 10 → R = (0, 0, 3))) (fun _ iv _ => 10 - (intOf iv).toNat)
  case atStart => exact ⟨0, 0, by omega, rfl, rfl, rfl, fun _ => ⟨HR.out, by omega, by simp⟩, fun hh => by omega⟩
  case round =>
    obtain ⟨k, X, hk, rfl, rfl, rfl, h1, h2⟩ := hrel
    have H1 := Lib.hid h1
    have H2 := Lib.hid h2
    clear h1 h2
    by_cases hk10 : k < 10
    · obtain ⟨hd, hkl, hX⟩ := H1.out hk10
      by_cases hend : k = len
      · have e : R = (0, 0, 12) := by
          rw [hd, List.drop_eq_nil_of_le (by rw [HLen.out, hend]; exact Nat.le_refl _)]
          unfold dec
          rw [if_neg (by omega)]
        subst e
        clear hd H1 H2
        go_wp2_with fail
        go_ret3
        exact ⟨rfl, rfl⟩
      · have hlt : k < xs.length := by rw [HLen.out]; omega
        obtain ⟨y, hy⟩ : ∃ y, y = xs.getD k 0 := ⟨_, rfl⟩
        obtain ⟨b, o, rfl, hc⟩ := HB.out k hlt
        rw [← hy] at hc
        have hdrop : xs.drop k = y :: xs.drop (k + 1) := by
          rw [List.drop_eq_getElem_cons hlt, hy, List.getD_eq_getElem?_getD, List.getElem?_eq_getElem hlt]
          rfl
        have hy256 : y < 256 := HA.out y (by rw [hy, List.getD_eq_getElem?_getD, List.getElem?_eq_getElem hlt]; exact List.getElem_mem hlt)
        rw [hdrop] at hd
        unfold dec at hd
        rw [if_neg (by omega)] at hd
        obtain ⟨N, hN, hNe⟩ := step_bits X y k hy256 hk10 hX
        have hpw : (128 : Nat) ^ (k + 1) = 128 ^ k * 128 := Nat.pow_succ ..
        have hand := and128 y hy256
        have HC := Lib.hid (canEnd_ y k wr hy256 hk10)
        have hki : (0 : Int) ≤ (k : Int) := by omega
        have hkl2 : (k : Int) < (len : Int) := by omega
        by_cases hc128 : 128 ≤ y
        · rw [if_pos hc128] at hand hd
          have hfin : ∃ X' : Nat, (N : Int) = (X' : Nat) ∧ (k + 1 < 10 → R = dec X' (k + 1) (xs.drop (k + 1)) ∧ k + 1 ≤ len ∧ X' < 128 ^ (k + 1)) ∧ (k + 1 = 10 → R = (0, 0, 3)) := by
            refine ⟨N, rfl, fun h9 => ?_, fun h10 => ?_⟩
            · have e := hNe (.inl (by omega))
              rw [show y % 128 = y - 128 by omega] at e
              refine ⟨by rw [hd, e], by omega, ?_⟩
              have : (y - 128) * 128 ^ k ≤ 127 * 128 ^ k := Nat.mul_le_mul_right _ (by omega)
              rw [e, hpw]
              omega
            · rw [hd]
              obtain rfl : k = 9 := by omega
              unfold dec
              cases List.drop (9 + 1) xs <;> rfl
          have HF := Lib.hid hfin
          clear hfin hd hX hdrop hy hlt H1 H2 hNe hpw HC
          go_wp2_with fail
          go_roundw
          case rel =>
            obtain ⟨X', e1, e2, e3⟩ := HF.out
            exact ⟨k + 1, X', by omega, by go_num, by rw [e1], trivial, e2, e3⟩
          case measure => simp [intOf]; omega
        · rw [if_neg hc128] at hand hd
          have hfin : (canB y k = false → R = (0, 0, 3)) ∧ (canB y k = true → R = (N, k + 1, 0)) := by
            refine ⟨fun hh => ?_, fun hh => ?_⟩
            · simp only [canB, Bool.not_eq_false', decide_eq_true_eq] at hh
              rw [hd, if_pos hh]
            · simp only [canB, Bool.not_eq_true', decide_eq_false_iff_not] at hh
              rw [hd, if_neg hh, hNe (by omega), Nat.mod_eq_of_lt (by omega)]
          have HF := Lib.hid hfin
          generalize canB y k = cb at *
          clear hfin hd hX hdrop hy hlt H1 H2 hNe hpw
          go_wp2_with fail
          refine HC.out.mono ?_
          rintro e w1 ⟨rfl, rfl⟩
          cases cb
          · have e := HF.out.1 rfl
            subst e
            clear HF
            go_wp2_with fail
            go_ret3
            exact ⟨rfl, rfl⟩
          · have e := HF.out.2 rfl
            subst e
            clear HF
            go_wp2_with fail
            go_ret3
            exact ⟨rfl, rfl⟩
    · obtain rfl : k = 10 := by omega
      have e := H2.out rfl
      subst e
      clear H1 H2
      go_wp2_with fail
      go_ret3
      exact ⟨rfl, rfl⟩
/-- The number with a sign at the begin of bytes; the text there. -/
def rdI (xs : List Nat) : Int × Nat × Nat := (unzz (rdU xs).1, (rdU xs).2.1, (rdU xs).2.2)
theorem BytesIn.part {w : World} {b o k n : Nat} {xs : List Nat} (h : BytesIn w (some ⟨b, o, none⟩) xs) (hk : k + n ≤ xs.length) : BytesIn w (some ⟨b, o + k, none⟩) ((xs.drop k).take n) := by
  intro i hi
  simp only [List.length_take, List.length_drop] at hi
  obtain ⟨b', o', e, h1⟩ := h (k + i) (by omega)
  cases e
  refine ⟨b, o + k, rfl, ?_⟩
  rw [Nat.add_assoc, h1]
  congr 2
  rw [List.getD_eq_getElem?_getD, List.getD_eq_getElem?_getD, List.getElem?_take, if_pos (by omega), List.getElem?_drop]
set_option maxRecDepth 100000 in
set_option maxHeartbeats 1000000 in
theorem ptext_ (a : Option Addr) (xs : List Nat) (c : Nat) (most : Int) (w : World) (h : BytesIn w a xs) (hb : ∀ x ∈ xs, x < 256) (hlim : xs.length ≤ 9223372036854775807) (hm0 : -9223372036854775808 ≤ most) (hm1 : most ≤ 9223372036854775807) (hcap : xs.length ≤ c) :
    Calls Tryd.prog 53 #[.slice a xs.length c, .int .i64 most] w fun e w' => e = .returned (.tuple #[.string (bs (rdT xs most).1), .int .i64 (rdT xs most).2.1, errK (rdT xs most).2.2]) ∧ w' = w := by
  have HU := Lib.hid (uint_ a xs c w h hb hlim)
  have hlt := rdU_lt xs hb
  have hpos : (rdU xs).2.2 = 0 → 0 < (rdU xs).2.1 := fun hh => (rdU_back xs hb hh).2.1
  have herr := rdU_err xs
  have HB := Lib.hid h
  have hbn : bs [] = ⟨#[]⟩ := rfl
  unfold rdT
  generalize rdU xs = R at *
  obtain ⟨v, k, e⟩ := R
  simp only at herr hlt hpos
  clear h hb
  by_cases h0 : most < 0
  · rw [if_pos h0]
    clear herr hpos hlt HU HB
    generalize xs.length = len at *
    go_enter Tryd.func53, Tryd.ntmps53
    go_wp2_with fail
    go_ret3
    exact ⟨rfl, rfl⟩
  · rw [if_neg h0]
    by_cases he : e = 0
    · subst he
      rw [if_neg (by simp)]
      by_cases h1 : most < v
      · rw [if_pos h1]
        clear herr hpos HB
        generalize xs.length = len at *
        go_enter Tryd.func53, Tryd.ntmps53
        go_wp2_with fail
        refine HU.out.mono ?_
        rintro e w1 ⟨rfl, rfl⟩
        unfold errK
        rw [if_pos rfl]
        go_wp2_with fail
        go_ret3
        exact ⟨rfl, rfl⟩
      · rw [if_neg h1]
        by_cases h2 : xs.length - k < v
        · rw [if_pos h2]
          clear herr hpos HB
          generalize xs.length = len at *
          go_enter Tryd.func53, Tryd.ntmps53
          go_wp2_with fail
          refine HU.out.mono ?_
          rintro e w1 ⟨rfl, rfl⟩
          unfold errK
          rw [if_pos rfl]
          go_wp2_with fail
          go_ret3
          exact ⟨rfl, rfl⟩
        · rw [if_neg h2]
          have hkp := hpos rfl
          obtain ⟨b, o, rfl, _⟩ := HB.out 0 (by omega)
          have hpart := HB.out.part (k := k) (n := v) (by omega)
          have hpl : ((xs.drop k).take v).length = v := by simp; omega
          have hcv := conv_ w _ v (c - k) _ hpl.symm hpart
          have hc0 : v = 0 → (convert 26 9 (.slice (some ⟨b, o, none⟩) 0 0)).run Tryd.prog w = .ok (.string (bs ((xs.drop k).take v))) w := fun hv => by
            subst hv
            rw [List.take_zero]
            exact conv_ w _ 0 0 [] rfl (bytesIn_nil _ _)
          simp only [Int.natCast_add]
          generalize (xs.drop k).take v = ts at *
          clear herr hpos HB hpart hpl
          generalize xs.length = len at *
          have hkl := hlt.2
          have hb1 : (0 : Int) ≤ (k : Int) + v := by omega
          have hb2 : (k : Int) + v ≤ c := by omega
          by_cases hck : c = k
          · subst hck
            obtain rfl : v = 0 := by omega
            have hcv0 := hc0 rfl
            clear hcv hc0
            simp only [Int.natCast_zero, Int.add_zero] at hb1 hb2 ⊢
            go_enter Tryd.func53, Tryd.ntmps53
            go_wp2_with fail
            refine HU.out.mono ?_
            rintro e w1 ⟨rfl, rfl⟩
            unfold errK
            rw [if_pos rfl]
            go_wp2_with fail
            go_ret3
            exact ⟨rfl, rfl⟩
          · clear hc0
            go_enter Tryd.func53, Tryd.ntmps53
            go_wp2_with fail
            refine HU.out.mono ?_
            rintro e w1 ⟨rfl, rfl⟩
            unfold errK
            rw [if_pos rfl]
            go_wp2_with fail
            go_ret3
            exact ⟨rfl, rfl⟩
    · obtain ⟨rfl, rfl⟩ := herr he
      rw [if_pos (by simpa using he)]
      clear hpos HB hlt
      generalize xs.length = len at *
      simp only [errK_not he] at HU ⊢
      go_enter Tryd.func53, Tryd.ntmps53
      go_wp2_with fail
      refine HU.out.mono ?_
      rintro e w1 ⟨rfl, rfl⟩
      go_wp2_with fail
      go_ret3
      exact ⟨rfl, rfl⟩
end Go.Proofs.YtlldamgnfaikhaaDoor
