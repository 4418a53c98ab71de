/- The law's shaped. -/
import Derived.Test.YtlpkpookheafpaaShShape
namespace Go.Proofs.Ytlpkpookheafpaa
open Go.RowKit Go.Sort

theorem tot_append (a b : List (List Nat)) : tot (a ++ b) = tot a + tot b := by simp [tot]
theorem tot_take_succ {R : List (List Nat)} {i : Nat} {r : List Nat} (h : R[i]? = some r) : tot (R.take (i + 1)) = tot (R.take i) + r.sum := by
  rw [List.take_add_one, h, tot_append]
  simp [tot]
theorem tot_take_le (R : List (List Nat)) (i : Nat) : tot (R.take i) ≤ tot R := by
  have := tot_append (R.take i) (R.drop i)
  rw [List.take_append_drop] at this
  omega
theorem sum_take_succ {r : List Nat} {k c : Nat} (h : r[k]? = some c) : (r.take (k + 1)).sum = (r.take k).sum + c := by
  rw [List.take_add_one, h, List.sum_append]
  simp
theorem sum_take_le (r : List Nat) (k : Nat) : (r.take k).sum ≤ r.sum := by
  have := List.sum_append (l₁ := r.take k) (l₂ := r.drop k)
  rw [List.take_append_drop] at this
  omega
theorem shp_at : ∀ {R : List (List Nat)} {w m i : Nat} {r : List Nat}, Shp w m R → R[i]? = some r → (∀ c ∈ r, (if i = 0 then m else 3) ≤ c ∧ c ≤ 7) ∧ ∀ r', R[i + 1]? = some r' → r'.length = r.sum + r.length
  | [], _, _, _, _, _, h => by simp at h
  | x :: xs, w, m, 0, r, ⟨h1, h2, h3⟩, h => by
    simp at h
    subst h
    refine ⟨h2, fun r' hr => ?_⟩
    cases xs with
    | nil => simp at hr
    | cons y ys =>
      simp at hr
      subst hr
      exact h3.1
  | x :: xs, w, m, i + 1, r, ⟨h1, h2, h3⟩, h => by
    have := shp_at h3 (i := i) (r := r) (by simpa using h)
    refine ⟨fun c hc => ?_, fun r' hr => this.2 r' (by simpa using hr)⟩
    have := this.1 c hc
    simp only [Nat.add_one_ne_zero, if_false]
    split at this <;> exact this
theorem RowsIn.on {w w' : World} {a : Option Addr} {R : List (List Nat)} (h : RowsIn w a R) (hb : Below w.heap.size w w') : RowsIn w' a R := fun i ns hi => by
  obtain ⟨g, a2, c2, e, h1, h2⟩ := h i ns hi
  refine ⟨g, a2, c2, e, (hb.cell (block_lt_of_cell h1)).trans h1, fun j x hj => ?_⟩
  obtain ⟨g2, e2, h3⟩ := h2 j x hj
  exact ⟨g2, e2, (hb.cell (block_lt_of_cell h3)).trans h3⟩
theorem tdiv_nat (x k : Nat) : (x : Int).tdiv (k : Int) = ((x / k : Nat) : Int) := by
  rw [Int.tdiv_eq_ediv_of_nonneg (by omega)]
  rfl
set_option maxRecDepth 100000 in
set_option maxHeartbeats 2000000 in
theorem shaped_zero (w : World) (a : Option Addr) (c : Nat) : Calls Try.prog 20 #[.slice a 0 c, .int .i64 0] w fun e w' => e = .returned (.bool true) ∧ w' = w := by
  go_enter Try.func20, Try.ntmps20
  go_wp2_with fail
  go_ret
  exact ⟨rfl, rfl⟩
set_option maxRecDepth 100000 in
set_option maxHeartbeats 2000000 in
theorem shaped_ {w : World} {a : Option Addr} {c n : Nat} {R : List (List Nat)} (hin : RowsIn w a R) (hne : R ≠ []) (hs : Shp 1 1 R) (ht : tot R = n) (hn : n ≤ 1000) (hp : 1 ≤ n) :
    Calls Try.prog 20 #[.slice a R.length c, .int .i64 n] w fun e w' => e = .returned (.bool true) ∧ w' = w := by
  have hR := rows_few hs (by omega)
  have hpos : 0 < R.length := List.length_pos_iff.2 hne
  have HFew : Hid (∀ k, (n + 1) / 2 / 4 ^ k = 0 → R.length ≤ k) := fun k hk => by
    cases R with
    | nil => exact Nat.zero_le _
    | cons r rs =>
      have := shp_most hs (k := k) (by rw [ht]; exact hk)
      rw [List.length_cons]
      omega
  have H0 : Hid (∃ g a2 c2, a = some ⟨g, 0, none⟩ ∧ w.cell? ⟨g, 0, none⟩ = some (.slice a2 1 c2)) := by
    obtain ⟨r, hr⟩ := getElem?_of_lt hpos
    obtain ⟨g, a2, c2, e, h1, _⟩ := hin 0 r hr
    have hl : r.length = 1 := by
      cases R with
      | nil => simp at hr
      | cons x xs => simp at hr; subst hr; exact hs.1
    rw [hl] at h1
    exact ⟨g, a2, c2, e, h1⟩
  have HRow : Hid (∀ i, i < R.length → ∃ r, R[i]? = some r ∧ tot (R.take (i + 1)) = tot (R.take i) + r.sum ∧ tot (R.take i) + r.sum ≤ n ∧ r.length ≤ 1000 ∧ (∃ g a2 c2, a = some ⟨g, 0, none⟩ ∧ w.cell? ⟨g, i, none⟩ = some (.slice a2 r.length c2) ∧
      (∀ k, k < r.length → ∃ c g2, r[k]? = some c ∧ a2 = some ⟨g2, 0, none⟩ ∧ w.cell? ⟨g2, k, none⟩ = some (.int .i64 (c : Nat)) ∧ c ≤ 7 ∧ 1 ≤ c ∧ (i = 0 ∨ 3 ≤ c) ∧ (r.take (k + 1)).sum = (r.take k).sum + c ∧ (r.take k).sum + c ≤ r.sum)) ∧
      (i + 1 < R.length → ∃ g a3 c3, a = some ⟨g, 0, none⟩ ∧ w.cell? ⟨g, i + 1, none⟩ = some (.slice a3 (r.sum + r.length) c3))) := fun i hi => by
    obtain ⟨r, hr⟩ := getElem?_of_lt hi
    obtain ⟨h1, h2⟩ := shp_at hs hr
    have e1 := tot_take_succ hr
    have e2 := tot_take_le R (i + 1)
    have hge1 : ∀ c ∈ r, 1 ≤ c := fun c hc => by
      have := (h1 c hc).1
      split at this <;> omega
    refine ⟨r, hr, e1, by omega, ?_, ?_, fun hi1 => ?_⟩
    · have := sum_ge (m := 1) (r := r) fun c hc => ⟨hge1 c hc, (h1 c hc).2⟩
      omega
    · obtain ⟨g, a2, c2, e, g1, g2⟩ := hin i r hr
      refine ⟨g, a2, c2, e, g1, fun k hk => ?_⟩
      obtain ⟨c, hc⟩ := getElem?_of_lt hk
      obtain ⟨g3, e3, g4⟩ := g2 k c hc
      have hm := List.mem_of_getElem? hc
      have e4 := sum_take_succ hc
      have e5 := sum_take_le r (k + 1)
      refine ⟨c, g3, hc, e3, g4, (h1 c hm).2, hge1 c hm, ?_, e4, by omega⟩
      have := (h1 c hm).1
      split at this
      · next z => exact .inl z
      · exact .inr this
    · obtain ⟨r', hr'⟩ := getElem?_of_lt hi1
      obtain ⟨g, a3, c3, e, g1, _⟩ := hin (i + 1) r' hr'
      rw [h2 r' hr'] at g1
      exact ⟨g, a3, c3, e, g1⟩
  have HT : Hid (tot (R.take R.length) = n) := by show _ = _; rw [List.take_length]; exact ht
  have HT0 : Hid (tot (R.take 0) = 0) := rfl
  clear hin hne hs ht
  generalize hL : R.length = L at *
  clear hL
  obtain ⟨x0, hx0⟩ : ∃ x0, x0 = (n + 1) / 2 := ⟨_, rfl⟩
  have HX0 := Lib.hid hx0
  have hw0 := wraps_i64 ((n : Int) + 1) (by omega) (by omega)
  have hd0 : ((n : Int) + 1).tdiv 2 = (x0 : Int) := by
    have := tdiv_nat (n + 1) 2
    rw [hx0]
    exact_mod_cast this
  have hwx := wraps_i64 (x0 : Int) (by omega) (by omega)
  have hn0 : ((n : Int) == 0) = false := beq_false_of_ne (by omega)
  have hn0' : ¬ (n : Int) = 0 := by omega
  have hx500 : x0 ≤ 1000 := by omega
  clear hx0
  go_enter Try.func20, Try.ntmps20
  go_wp2_with fail
  go_loopg [5, 6] x0 (fun kx s5 s6 wr => ∃ (k x : Nat), s5 = .int .i64 k ∧ s6 = .int .i64 x ∧ x ≤ kx ∧ k + x ≤ 1000 ∧ wr = w ∧ Hid (x = (n + 1) / 2 / 4 ^ k))
  case atStart => exact ⟨0, x0, rfl, rfl, Nat.le_refl _, by omega, rfl, by show _ = _; rw [HX0.out]; simp⟩
  case round =>
    clear HX0
    obtain ⟨k, x, rfl, rfl, hxk, hkx, hwr, HX⟩ := hrel
    have hwr := hwr.symm
    subst hwr
    by_cases hx : 0 < x
    · have hgt : (0 : Int) < (x : Int) := by omega
      have hw1 := wraps_i64 ((k : Int) + 1) (by omega) (by omega)
      have hd1 : (x : Int).tdiv 4 = ((x / 4 : Nat) : Int) := tdiv_nat x 4
      have HX' : Hid (x / 4 = (n + 1) / 2 / 4 ^ (k + 1)) := by
        show _ = _
        conv => lhs; rw [HX.out]
        rw [Nat.div_div_eq_div_mul _ (4 ^ k), ← Nat.pow_succ]
      have hlt4 : x / 4 < x := Nat.div_lt_self hx (by omega)
      obtain ⟨y, hy⟩ : ∃ y, y = x / 4 := ⟨_, rfl⟩
      rw [← hy] at hd1 HX' hlt4
      have hwy := wraps_i64 (y : Int) (by omega) (by omega)
      clear hy HX HRow HFew H0 HT HT0
      go_wp2_with fail
      go_roundg y
      case measure => omega
      case rel => exact ⟨k + 1, y, by rw [show (k : Int) + 1 = ((k + 1 : Nat) : Int) by omega], rfl, Nat.le_refl _, by omega, rfl, HX'⟩
    · obtain rfl : x = 0 := by omega
      have hk := HFew.out k HX.out.symm
      obtain ⟨g, a2, c2, rfl, d0⟩ := H0.out
      have b1 : ¬ (L : Int) < 1 := by omega
      have b2 : ¬ (k : Int) < (L : Int) := by omega
      clear HFew H0 HX
      go_wp2_with fail
      go_loopg [7, 8] L (fun kx s7 s8 wr => ∃ (i t : Nat), s8 = .int .i64 i ∧ s7 = .int .i64 t ∧ i ≤ L ∧ L - i ≤ kx ∧ t ≤ n ∧ wr = w ∧ Hid (t = tot (R.take i)))
      case atStart => exact ⟨0, 0, rfl, rfl, Nat.zero_le _, by omega, Nat.zero_le _, rfl, HT0.out.symm⟩
      case round =>
        clear HT0 b1 b2 d0
        obtain ⟨i, t, rfl, rfl, hi, hkx2, htn, hwr, HTi⟩ := hrel
        have hwr := hwr.symm
        subst hwr
        by_cases hlt : i < L
        · obtain ⟨r, hr, e1, e2, hrl, ⟨g', a3, c3, eg, d1, hK⟩, hNx⟩ := HRow.out i hlt
          cases eg
          have HK := Lib.hid hK
          have HNx := Lib.hid hNx
          rw [← HTi.out] at e1 e2
          have HE1 := Lib.hid e1
          have hlt' : (i : Int) < (L : Int) := by omega
          have HS0 : Hid ((r.take r.length).sum = r.sum) := by show _ = _; rw [List.take_length]
          clear hK hNx e1 hr HRow HTi hkx hxk
          generalize r.length = rl at *
          generalize r.sum = rs at *
          go_wp2_with fail
          go_loopg [7, 9, 10] rl (fun kx s7 s9 s10 wr => ∃ (k x y : Nat), s10 = .int .i64 k ∧ s7 = .int .i64 x ∧ s9 = .int .i64 y ∧ k ≤ rl ∧ rl - k ≤ kx ∧ x ≤ n ∧ y ≤ 3000 + k ∧ wr = w ∧ Hid (x = t + (r.take k).sum ∧ y = (r.take k).sum + k))
          case atStart => exact ⟨0, t, 0, rfl, rfl, rfl, Nat.zero_le _, by omega, by omega, by omega, rfl, ⟨rfl, rfl⟩⟩
          case round =>
            obtain ⟨k, x, y, rfl, rfl, rfl, hk, hkx3, hx, hy, hwr, HXY⟩ := hrel
            have hwr := hwr.symm
            subst hwr
            by_cases hltk : k < rl
            · obtain ⟨c, g2, hc, rfl, d2, c7, c1, c3', e4, e5⟩ := HK.out k hltk
              have hxy := HXY.out
              have HXY' : Hid (x + c = t + (r.take (k + 1)).sum ∧ y + c + 1 = (r.take (k + 1)).sum + (k + 1)) := by
                show _ ∧ _
                rw [e4]
                omega
              have q7 : ¬ (7 : Int) < (c : Int) := by omega
              have q1 : ¬ (c : Int) < 1 := by omega
              have w1 := wraps_i64 ((k : Int) + 1) (by omega) (by omega)
              have w2 := wraps_i64 ((x : Int) + (c : Int)) (by omega) (by omega)
              have w3 := wraps_i64 ((y : Int) + (c : Int)) (by omega) (by omega)
              have w4 := wraps_i64 ((y : Int) + (c : Int) + 1) (by omega) (by omega)
              have hltk' : (k : Int) < (rl : Int) := by omega
              have hxc : x + c ≤ n := by omega
              have hyc : y + c + 1 ≤ 3000 + (k + 1) := by omega
              have hq3 : (¬ (0 : Int) < (i : Int)) ∨ ((0 : Int) < (i : Int) ∧ ¬ (c : Int) < 3) := by omega
              clear HK HNx HE1 HS0 HXY hxy e4 e5 hc c3' HT
              rcases hq3 with q3 | ⟨q3, q4⟩
              all_goals
                go_wp2_with fail
                go_roundg (rl - (k + 1))
                case measure => omega
                case rel => exact ⟨k + 1, x + c, y + c + 1, congrArg (Value.int .i64) (by omega), congrArg (Value.int .i64) (by omega), congrArg (Value.int .i64) (by omega), by omega, Nat.le_refl _, hxc, hyc, rfl, HXY'⟩
            · obtain rfl : k = rl := by omega
              have hxy := HXY.out
              rw [HS0.out] at hxy
              have hge : ¬ (k : Int) < (k : Int) := by omega
              have w1 := wraps_i64 ((i : Int) + 1) (by omega) (by omega)
              have HTn : Hid (x = tot (R.take (i + 1))) := by show _ = _; rw [HE1.out]; exact hxy.1
              by_cases hi1 : i + 1 < L
              · obtain ⟨g', a4, c4, eg, d3⟩ := HNx.out hi1
                cases eg
                rw [← hxy.2] at d3
                have hi1' : (i : Int) + 1 < (L : Int) := by omega
                clear HK HNx HE1 HS0 HXY hxy HT
                go_wp2_with fail
                go_roundg (L - (i + 1))
                case measure => omega
                case rel => exact ⟨i + 1, x, congrArg (Value.int .i64) (by omega), rfl, by omega, Nat.le_refl _, hx, rfl, HTn⟩
              · have hi1' : ¬ (i : Int) + 1 < (L : Int) := by omega
                clear HK HNx HE1 HS0 HXY hxy HT
                go_wp2_with fail
                go_roundg (L - (i + 1))
                case measure => omega
                case rel => exact ⟨i + 1, x, congrArg (Value.int .i64) (by omega), rfl, by omega, Nat.le_refl _, hx, rfl, HTn⟩
        · obtain rfl : i = L := by omega
          obtain rfl : t = n := by rw [HTi.out]; exact HT.out
          clear HRow HT HTi
          go_wp2_with fail
          go_ret
          exact ⟨rfl, rfl⟩
end Go.Proofs.Ytlpkpookheafpaa
