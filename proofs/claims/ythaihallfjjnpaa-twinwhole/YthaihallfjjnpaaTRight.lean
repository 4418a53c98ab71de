/- The law's right: do bytes hold a text under a number that was never saved so? -/
import Derived.Test.YthaihallfjjnpaaTFind
namespace Go.Proofs.Ythaihallfjjnpaa
open Go.RowKit Go.Sort Go.Maps

/-- Texts in memory. -/
def ListIn (w : World) (la : Option Addr) (yss : List (List Nat)) : Prop := ∀ i, i < yss.length → ∃ b o, la = some ⟨b, o, none⟩ ∧ ∃ a c, w.cell? ⟨b, o + i, none⟩ = some (.slice a (yss.getD i []).length c) ∧ BytesIn w a (yss.getD i []) ∧ ∀ x ∈ yss.getD i [], x < 256
theorem ListIn.on {w w' : World} {la : Option Addr} {yss : List (List Nat)} (h : ListIn w la yss) (hb : Below w.heap.size w w') : ListIn w' la yss := fun i hi => by
  obtain ⟨b, o, e, a, c, h1, h2, h3⟩ := h i hi
  exact ⟨b, o, e, a, c, (hb.cell (block_lt_of_cell h1)).trans h1, h2.on hb, h3⟩
def rightB (h : Nat × List Nat) (yss : List (List Nat)) : Bool := decide (h.1 ≠ 0 ∧ (yss.length < h.1 ∨ yss.getD (h.1 - 1) [] ≠ h.2))
theorem rightB_zero (ts : List Nat) (yss : List (List Nat)) : rightB (0, ts) yss = false := by simp [rightB]
theorem right_no {h : Nat × List Nat} {yss : List (List Nat)} (hr : rightB h yss = false) : h.1 = 0 ∨ (h.1 ≤ yss.length ∧ yss.getD (h.1 - 1) [] = h.2) := by
  unfold rightB at hr
  simp only [decide_eq_false_iff_not] at hr
  by_cases h0 : h.1 = 0
  · exact .inl h0
  · refine .inr ?_
    have : ¬ (yss.length < h.1 ∨ yss.getD (h.1 - 1) [] ≠ h.2) := fun e => hr ⟨h0, e⟩
    simp only [not_or, Decidable.not_not] at this
    exact ⟨by omega, this.2⟩
theorem bs_beq {xs ys : List Nat} (hx : ∀ x ∈ xs, x < 256) (hy : ∀ x ∈ ys, x < 256) : ((bs xs).toList == (bs ys).toList) = decide (xs = ys) := by
  by_cases h : xs = ys
  · rw [h]; simp
  · rw [decide_eq_false h]
    refine beq_false_of_ne fun e => h (bs_inj _ _ hx hy ?_)
    rw [ByteArray.toList_eq, ByteArray.toList_eq] at e
    exact ByteArray.ext (Array.toList_inj.1 e)
set_option maxRecDepth 100000 in
set_option maxHeartbeats 1000000 in
theorem right_ (b o : Nat) (xs : List Nat) (n c : Nat) (w : World) (h : BytesIn w (some ⟨b, o, none⟩) xs) (hx : ∀ x ∈ xs, x < 256) (hn : xs.length = n) (hn0 : 11 ≤ n) (hlim : n ≤ 1048576) (hcap : n ≤ c) (la : Option Addr) (yss : List (List Nat)) (kk lc : Nat) (hkk : yss.length = kk) (hk6 : kk ≤ 100) (hls : ListIn w la yss) :
    Calls Try.prog 11 #[.slice (some ⟨b, o, none⟩) n c, .slice la kk lc] w fun e w' => e = .returned (.bool (rightB (heldB xs) yss)) ∧ Below w.heap.size w w' := by
  have HU : Hid (∀ W, Below w.heap.size w W → Calls Try.prog 24 #[.slice (some ⟨b, o, none⟩) n c] W fun e w' => e = .returned (.tuple #[.int .u64 (rdU xs).1, .int .i64 (rdU xs).2.1, errV (rdU xs).2.2]) ∧ w' = W) := fun W hW => by
    have := uint_ (some ⟨b, o, none⟩) xs c W (h.on hW) hx (by omega)
    rw [hn] at this
    exact this
  have hlt := rdU_lt xs hx
  have hsz : (rdU xs).2.1 ≤ 10 := by
    by_cases he : (rdU xs).2.2 = 0
    · obtain ⟨h1, h2, h3, h4⟩ := rdU_back xs hx he
      have := enc_le10 _ h4
      rw [h1, List.length_take] at this
      omega
    · rw [(rdU_err xs he).2]; omega
  obtain ⟨k, hk⟩ : ∃ k, k = (rdU xs).2.1 := ⟨_, rfl⟩
  rw [← hk] at hlt hsz
  have hdl : (xs.drop k).length = n - k := by rw [List.length_drop, hn]
  have HT : Hid (∀ W, Below w.heap.size w W → Calls Try.prog 25 #[.slice (some ⟨b, o + k, none⟩) (n - k) (c - k), .int .i64 n] W fun e w' => e = .returned (.tuple #[.string (bs (rdT (xs.drop k) n).1), .int .i64 (rdT (xs.drop k) n).2.1, errV (rdT (xs.drop k) n).2.2]) ∧ w' = W) := fun W hW => by
    have hp := (h.on hW).part (k := k) (n := n - k) (by omega)
    rw [List.take_of_length_le (by omega)] at hp
    have := text_ (some ⟨b, o + k, none⟩) (xs.drop k) (c - k) n W hp (fun x h => hx x (List.mem_of_mem_drop h)) (by omega) (by omega) (by omega) (by omega)
    rw [hdl] at this
    exact this
  have htx : (rdT (xs.drop k) n).2.2 = 0 → (rdT (xs.drop k) n).2.1 ≤ n - k ∧ ∀ x ∈ (rdT (xs.drop k) n).1, x < 256 := by
    unfold rdT
    intro he
    split at he
    · cases he
    · rename_i h1
      split at he
      · rename_i h2; exact absurd he h2
      · rename_i h2
        split at he
        · cases he
        · rename_i h3
          split at he
          · cases he
          · rename_i h4
            have hlt2 := rdU_lt (xs.drop k) (fun x h => hx x (List.mem_of_mem_drop h))
            rw [if_neg h1, if_neg h2, if_neg h3, if_neg h4]
            refine ⟨?_, fun x h => hx x (List.mem_of_mem_drop (List.mem_of_mem_drop (List.mem_of_mem_take h)))⟩
            rw [hdl] at h4 hlt2
            show (rdU (xs.drop k)).2.1 + (rdU (xs.drop k)).1 ≤ n - k
            omega
  obtain ⟨R, hR⟩ : ∃ R, R = rdT (xs.drop k) n := ⟨_, rfl⟩
  have hheld : heldB xs = if (rdU xs).2.2 ≠ 0 ∨ (rdU xs).1 = 0 then (0, []) else if R.2.2 ≠ 0 then (0, []) else if n < k + R.2.1 + 4 then (0, []) else if (opn (xs.take (k + R.2.1 + 4))).2 ≠ 0 then (0, []) else ((rdU xs).1, R.1) := by
    unfold heldB; rw [hR, hk, hn]
  rw [← hR] at HT htx
  rw [hheld]
  rw [← hk] at HU
  generalize (rdU xs).1 = U at *
  generalize (rdU xs).2.2 = eu at *
  obtain ⟨ts, m, et⟩ := R
  simp only at HT htx hheld ⊢
  have HOp : Hid (∀ W, k + m + 4 ≤ n → Below w.heap.size w W → Calls Try.prog 26 #[.slice (some ⟨b, o, none⟩) (k + m + 4) c] W fun e w' => ∃ a c', e = .returned (.tuple #[.slice a (opn (xs.take (k + m + 4))).1.length c', errV (opn (xs.take (k + m + 4))).2]) ∧ Below W.heap.size W w') := fun W hle hW => by
    have hl2 : (xs.take (k + m + 4)).length = k + m + 4 := by rw [List.length_take]; omega
    have := open_ (some ⟨b, o, none⟩) (xs.take (k + m + 4)) c W ((h.on hW).take _) (fun x h => hx x (List.mem_of_mem_take h)) (by omega) (by omega)
    rw [hl2] at this
    exact this.mono fun e w' ⟨a, c', h1, _, _, _, h5⟩ => ⟨a, c', h1, h5⟩
  have HLs := Lib.hid hls
  have HTx := Lib.hid htx
  clear h hx htx hdl hR hheld hk hn hls
  generalize opn (xs.take (k + m + 4)) = Op at *
  obtain ⟨os, oe⟩ := Op
  simp only at HOp ⊢
  generalize os.length = ol at *
  by_cases c1 : eu ≠ 0
  · rw [if_pos (.inl c1), rightB_zero]
    simp only [errV_not c1] at HU
    go_enter Try.func11, Try.ntmps11
    go_wp2_with fail
    refine (HU.out w (Below.refl _ _)).mono ?_
    rintro e w1 ⟨rfl, rfl⟩
    go_wp2_with fail
    go_ret
    exact ⟨rfl, Below.refl _ _⟩
  · obtain rfl : eu = 0 := by omega
    have e0 : errV 0 = .nilIface := rfl
    rw [e0] at HU
    clear c1
    by_cases c2 : U = 0
    · rw [if_pos (.inr c2), rightB_zero]
      have HU0 := Lib.hid c2
      clear c2
      go_enter Try.func11, Try.ntmps11
      go_wp2_with fail
      refine (HU.out w (Below.refl _ _)).mono ?_
      rintro e w1 ⟨rfl, rfl⟩
      have hU0 : ((U : Int) == 0) = true := by simp [HU0.out]
      go_wp2_with fail
      go_ret
      exact ⟨rfl, Below.refl _ _⟩
    · rw [if_neg (by simp [c2])]
      have hU0 : ((U : Int) == 0) = false := by simpa using c2
      have hck : ¬ c = k := by omega
      have hkn : (k : Int) ≤ n := by omega
      have hkc : (k : Int) ≤ c := by omega
      have HU1 := Lib.hid c2
      clear c2
      by_cases c3 : et ≠ 0
      · rw [if_pos c3, rightB_zero]
        simp only [errV_not c3] at HT
        go_enter Try.func11, Try.ntmps11
        go_wp2_with fail
        refine (HU.out w (Below.refl _ _)).mono ?_
        rintro e w1 ⟨rfl, rfl⟩
        go_wp2_with fail
        refine (HT.out w1 (Below.refl _ _)).mono ?_
        rintro e w2 ⟨rfl, rfl⟩
        go_wp2_with fail
        go_ret
        exact ⟨rfl, Below.refl _ _⟩
      · obtain rfl : et = 0 := by omega
        rw [if_neg (by simp)]
        rw [e0] at HT
        obtain ⟨hm, htb⟩ := HTx.out rfl
        have HTb := Lib.hid htb
        clear c3 HTx htb
        have w1 := wraps_i64 ((k : Int) + m) (by omega) (by omega)
        have w2 := wraps_i64 ((k : Int) + m + 4) (by omega) (by omega)
        by_cases c4 : n < k + m + 4
        · rw [if_pos c4, rightB_zero]
          have hgt : (k : Int) + m + 4 > n := by omega
          go_enter Try.func11, Try.ntmps11
          go_wp2_with fail
          refine (HU.out w (Below.refl _ _)).mono ?_
          rintro e w1 ⟨rfl, rfl⟩
          go_wp2_with fail
          refine (HT.out w1 (Below.refl _ _)).mono ?_
          rintro e w2 ⟨rfl, rfl⟩
          go_wp2_with fail
          go_ret
          exact ⟨rfl, Below.refl _ _⟩
        · rw [if_neg c4]
          have hgt : ¬ (k : Int) + m + 4 > n := by omega
          have hle : k + m + 4 ≤ n := by omega
          have hb1 : (0 : Int) ≤ (k : Int) + m + 4 := by omega
          have hb2 : (k : Int) + m + 4 ≤ c := by omega
          have ht : ((k : Int) + m + 4).toNat = k + m + 4 := by omega
          by_cases c5 : oe ≠ 0
          · rw [if_pos c5, rightB_zero]
            simp only [errV_not c5] at HOp
            go_enter Try.func11, Try.ntmps11
            go_wp2_with fail
            refine (HU.out w (Below.refl _ _)).mono ?_
            rintro e w1 ⟨rfl, rfl⟩
            go_wp2_with fail
            refine (HT.out w1 (Below.refl _ _)).mono ?_
            rintro e w2 ⟨rfl, rfl⟩
            go_wp2_with fail
            refine (HOp.out w2 hle (Below.refl _ _)).mono ?_
            rintro e w3 ⟨a3, c3, rfl, hb3⟩
            have HB3 := Lib.hid hb3
            clear hb3
            go_wp2_with fail
            go_ret
            exact ⟨rfl, HB3.out⟩
          · obtain rfl : oe = 0 := by omega
            rw [if_neg (by simp)]
            rw [e0] at HOp
            clear c5
            by_cases c6 : kk < U
            · have e6 : rightB (U, ts) yss = true := by simp [rightB, HU1.out, hkk, c6]
              rw [e6]
              have hgk : (U : Int) > kk := by omega
              have hwk := wraps_u64 (kk : Int) (by omega) (by omega)
              go_enter Try.func11, Try.ntmps11
              go_wp2_with fail
              refine (HU.out w (Below.refl _ _)).mono ?_
              rintro e w1 ⟨rfl, rfl⟩
              go_wp2_with fail
              refine (HT.out w1 (Below.refl _ _)).mono ?_
              rintro e w2 ⟨rfl, rfl⟩
              go_wp2_with fail
              refine (HOp.out w2 hle (Below.refl _ _)).mono ?_
              rintro e w3 ⟨a3, c3, rfl, hb3⟩
              have HB3 := Lib.hid hb3
              clear hb3
              go_wp2_with fail
              go_ret
              exact ⟨rfl, HB3.out⟩
            · have hgk : ¬ (U : Int) > kk := by omega
              have hwk := wraps_u64 (kk : Int) (by omega) (by omega)
              have hwu := wraps_u64 ((U : Int) - 1) (by have := HU1.out; omega) (by omega)
              have hlt2 : (U : Int) - 1 < kk := by omega
              have hge2 : (0 : Int) ≤ (U : Int) - 1 := by have := HU1.out; omega
              have e6 : rightB (U, ts) yss = !decide (yss.getD (U - 1) [] = ts) := by
                have h0 := HU1.out
                simp [rightB, h0, hkk, c6]
              rw [e6]
              go_enter Try.func11, Try.ntmps11
              go_wp2_with fail
              refine (HU.out w (Below.refl _ _)).mono ?_
              rintro e w1 ⟨rfl, rfl⟩
              go_wp2_with fail
              refine (HT.out w1 (Below.refl _ _)).mono ?_
              rintro e w2 ⟨rfl, rfl⟩
              go_wp2_with fail
              refine (HOp.out w2 hle (Below.refl _ _)).mono ?_
              rintro e w3 ⟨a3, c3, rfl, hb3⟩
              have HB3 := Lib.hid hb3
              clear hb3
              obtain ⟨lb, lo, rfl, ya, yc, hy1, hy2, hy3⟩ := HLs.out.on HB3.out (U - 1) (by have := HU1.out; omega)
              have hcv := conv_ w3 ya _ yc (yss.getD (U - 1) []) rfl hy2
              have hidx : ((U : Int) - 1).toNat = U - 1 := by omega
              have hus : ((U - 1 : Nat) : Int) = (U : Int) - 1 := by have := HU1.out; omega
              have hbeq : ((bs (yss.getD (U - 1) [])).toList == (bs ts).toList) = decide (yss.getD (U - 1) [] = ts) := bs_beq hy3 HTb.out
              have HQ := Lib.hid hbeq
              generalize (yss.getD (U - 1) []).length = yl at *
              generalize bs (yss.getD (U - 1) []) = sy at *
              generalize bs ts = st at *
              clear hy2 hy3 hbeq
              go_wp2_with fail
              go_ret
              exact ⟨ret_bool (by rw [HQ.out]), HB3.out⟩
end Go.Proofs.Ythaihallfjjnpaa
