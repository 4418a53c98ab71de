/- The document's Held: what bytes hold. -/
import Derived.Test.YthaihallfjjnpaaGreatDoorQ1
import Derived.Test.YthaihallfjjnpaaGreatDoorJ2
import Derived.Test.YthaihallfjjnpaaGreatDoorJ3
namespace Go.Proofs.YthaihallfjjnpaaGreatDoor
open Go.RowKit Go.Sort Go.Maps

theorem bsub_take (xs : List Nat) (n : Nat) : (bs xs).extract 0 n = bs (xs.take n) := bs_take xs n
/-- What []byte(s) makes of bytes. -/
theorem conv_backB (w : World) (xs : List Nat) (hx : ∀ x ∈ xs, x < 256) : ∃ c W, (convert 9 37 (.string (bs xs))).run Tryz.prog w = .ok (.slice (some ⟨w.heap.size, 0, none⟩) xs.length c) W ∧ BytesIn W (some ⟨w.heap.size, 0, none⟩) xs ∧ xs.length ≤ c ∧ Below w.heap.size w W := by
  obtain ⟨c, W, h1, h2, h3, h4⟩ := conv_back w (bs xs)
  rw [bs_size] at h1 h3
  rw [sb_bs xs hx] at h2
  exact ⟨c, W, h1, h2, h3, h4⟩
set_option maxRecDepth 100000 in
set_option maxHeartbeats 1000000 in
theorem rheld_ (xs : List Nat) (n : Nat) (w : World) (hx : ∀ x ∈ xs, x < 256) (hn : xs.length = n) (hn0 : 11 ≤ n) (hlim : n ≤ 1048576) :
    Calls Tryz.prog 28 #[.string (bs xs)] w fun e w' => e = .returned (.tuple #[.int .u64 (heldB xs).1, .string (bs (heldB xs).2)]) ∧ Below w.heap.size w w' := by
  obtain ⟨c1, W1, hc1, hy1, hk1, hb1⟩ := conv_backB w xs hx
  rw [hn] at hc1 hk1
  have HU : Hid (Calls Tryz.prog 53 #[.slice (some ⟨w.heap.size, 0, none⟩) n c1] W1 fun e w' => e = .returned (.tuple #[.int .u64 (rdU xs).1, .int .i64 (rdU xs).2.1, .int .i64 (rdU xs).2.2]) ∧ w' = W1) := by
    have := ruint_ (some ⟨w.heap.size, 0, none⟩) xs c1 W1 hy1 hx (by omega)
    rw [hn] at this
    exact this
  have hlt := rdU_lt xs hx
  have hsz : (rdU xs).2.1 ≤ 10 := by
    by_cases he : (rdU xs).2.2 = 0
    · obtain ⟨h1, h2, h3, h4⟩ := rdU_back xs hx he
      have := enc_le10 _ h4
      rw [h1, List.length_take] at this
      omega
    · rw [(rdU_err xs he).2]; omega
  obtain ⟨k, hk⟩ : ∃ k, k = (rdU xs).2.1 := ⟨_, rfl⟩
  rw [← hk] at hlt hsz HU
  have hdl : (xs.drop k).length = n - k := by rw [List.length_drop, hn]
  have hxd : ∀ x ∈ xs.drop k, x < 256 := fun x h => hx x (List.mem_of_mem_drop h)
  obtain ⟨c2, W2, hc2, hy2, hk2, hb2⟩ := conv_backB W1 (xs.drop k) hxd
  rw [hdl] at hc2 hk2
  have HT : Hid (Calls Tryz.prog 54 #[.slice (some ⟨W1.heap.size, 0, none⟩) (n - k) c2, .int .i64 n] W2 fun e w' => e = .returned (.tuple #[.string (bs (rdT (xs.drop k) n).1), .int .i64 (rdT (xs.drop k) n).2.1, .int .i64 (rdT (xs.drop k) n).2.2]) ∧ w' = W2) := by
    have := rtext_ (some ⟨W1.heap.size, 0, none⟩) (xs.drop k) c2 n W2 hy2 hxd (by omega) (by omega) (by omega) (by omega)
    rw [hdl] at this
    exact this
  have htx : (rdT (xs.drop k) n).2.2 = 0 → (rdT (xs.drop k) n).2.1 ≤ n - k ∧ ∀ x ∈ (rdT (xs.drop k) n).1, x < 256 := by
    unfold rdT
    intro he
    split at he
    · cases he
    · rename_i h1
      split at he
      · rename_i h2; exact absurd he h2
      · rename_i h2
        split at he
        · cases he
        · rename_i h3
          split at he
          · cases he
          · rename_i h4
            have hlt2 := rdU_lt (xs.drop k) (fun x h => hx x (List.mem_of_mem_drop h))
            rw [if_neg h1, if_neg h2, if_neg h3, if_neg h4]
            refine ⟨?_, fun x h => hx x (List.mem_of_mem_drop (List.mem_of_mem_drop (List.mem_of_mem_take h)))⟩
            rw [hdl] at h4 hlt2
            show (rdU (xs.drop k)).2.1 + (rdU (xs.drop k)).1 ≤ n - k
            omega
  obtain ⟨R, hR⟩ : ∃ R, R = rdT (xs.drop k) n := ⟨_, rfl⟩
  have hheld : heldB xs = if (rdU xs).2.2 ≠ 0 ∨ (rdU xs).1 = 0 then (0, []) else if R.2.2 ≠ 0 then (0, []) else if n < k + R.2.1 + 4 then (0, []) else if (opn (xs.take (k + R.2.1 + 4))).2 ≠ 0 then (0, []) else ((rdU xs).1, R.1) := by
    unfold heldB; rw [hR, hk, hn]
  rw [← hR] at HT htx
  rw [hheld]
  have hdr : (bs xs).extract k (bs xs).size = bs (xs.drop k) := bs_drop xs k
  rw [bs_size, hn] at hdr
  have hbz : (bs xs).size = n := by rw [bs_size, hn]
  generalize (rdU xs).1 = U at *
  generalize (rdU xs).2.2 = eu at *
  obtain ⟨ts, m, et⟩ := R
  simp only at HT htx hheld ⊢
  have hxt : ∀ x ∈ xs.take (k + m + 4), x < 256 := fun x h => hx x (List.mem_of_mem_take h)
  obtain ⟨c3, W3, hc3, hy3, hk3, hb3⟩ := conv_backB W2 (xs.take (k + m + 4)) hxt
  have htk : (bs xs).extract 0 (k + m + 4) = bs (xs.take (k + m + 4)) := bs_take xs _
  have HOp : Hid (k + m + 4 ≤ n → Calls Tryz.prog 55 #[.slice (some ⟨W2.heap.size, 0, none⟩) (xs.take (k + m + 4)).length c3] W3 fun e w' => ∃ a c', e = .returned (.tuple #[.slice a (opn (xs.take (k + m + 4))).1.length c', .int .i64 ((opn (xs.take (k + m + 4))).2 : Nat)]) ∧ Below W3.heap.size W3 w') := fun hle => by
    have hl2 : (xs.take (k + m + 4)).length = k + m + 4 := by rw [List.length_take]; omega
    exact (ropen_ (some ⟨W2.heap.size, 0, none⟩) (xs.take (k + m + 4)) c3 W3 hy3 hxt (fun e => by cases e) hk3 (by omega)).mono fun e w' ⟨a, c', h1, _, h3⟩ => ⟨a, c', h1, h3⟩
  have HTx := Lib.hid htx
  have HBs := Lib.hid (And.intro hb1 (And.intro (below_step hb1 hb2) (below_step (below_step hb1 hb2) hb3)))
  clear hx htx hdl hR hheld hk hn hy1 hy2 hy3 hxd hxt hb1 hb2 hb3 hk1 hk2 hk3
  generalize opn (xs.take (k + m + 4)) = Op at *
  generalize (xs.take (k + m + 4)).length = tl at *
  generalize bs (xs.take (k + m + 4)) = sT at *
  generalize bs (xs.drop k) = sD at *
  obtain ⟨os, oe⟩ := Op
  simp only at HOp ⊢
  generalize os.length = ol at *
  have e00 : bs [] = ⟨#[]⟩ := rfl
  by_cases c1 : eu ≠ 0
  · rw [if_pos (.inl c1)]
    have heu : ((eu : Int) != 0) = true := by simpa using c1
    have heu2 : ((eu : Int) == 0) = false := by simpa using c1
    go_enter Tryz.func28, Tryz.ntmps28
    go_wp2_with (first | (go_at_call 53; refine HU.out.mono ?_; rintro e w1 ⟨rfl, rfl⟩) | fail)
    go_ret2
    exact ⟨rfl, HBs.out.1⟩
  · obtain rfl : eu = 0 := by omega
    clear c1
    by_cases c2 : U = 0
    · rw [if_pos (.inr c2)]
      subst c2
      go_enter Tryz.func28, Tryz.ntmps28
      go_wp2_with (first | (go_at_call 53; refine HU.out.mono ?_; rintro e w1 ⟨rfl, rfl⟩) | fail)
      go_ret2
      exact ⟨rfl, HBs.out.1⟩
    · rw [if_neg (by simp [c2])]
      have hU0 : ((U : Int) == 0) = false := by simpa using c2
      have hkn : (k : Int) ≤ n := by omega
      have hbd : (k : Int) ≤ ((bs xs).size : Int) := by rw [hbz]; omega
      by_cases c3 : et ≠ 0
      · rw [if_pos c3]
        have het : ((et : Int) == 0) = false := by simpa using c3
        go_enter Tryz.func28, Tryz.ntmps28
        go_wp2_with (first | (go_at_call 53; refine HU.out.mono ?_; rintro e w1 ⟨rfl, rfl⟩) | (go_at_call 54; refine HT.out.mono ?_; rintro e w2 ⟨rfl, rfl⟩) | fail)
        go_ret2
        exact ⟨rfl, HBs.out.2.1⟩
      · obtain rfl : et = 0 := by omega
        rw [if_neg (by simp)]
        obtain ⟨hm, htb⟩ := HTx.out rfl
        clear c3 HTx htb
        have w1 := wraps_i64 ((k : Int) + m) (by omega) (by omega)
        have w2 := wraps_i64 ((k : Int) + m + 4) (by omega) (by omega)
        by_cases c4 : n < k + m + 4
        · rw [if_pos c4]
          have hgt : (k : Int) + m + 4 > n := by omega
          go_enter Tryz.func28, Tryz.ntmps28
          go_wp2_with (first | (go_at_call 53; refine HU.out.mono ?_; rintro e w1 ⟨rfl, rfl⟩) | (go_at_call 54; refine HT.out.mono ?_; rintro e w2 ⟨rfl, rfl⟩) | fail)
          go_ret2
          exact ⟨rfl, HBs.out.2.1⟩
        · rw [if_neg c4]
          have hgt : ¬ (k : Int) + m + 4 > n := by omega
          have hle : k + m + 4 ≤ n := by omega
          have ht0 : ((k : Int) + m + 4).toNat = k + m + 4 := by omega
          by_cases c5 : oe ≠ 0
          · rw [if_pos c5]
            have hoe : ((oe : Int) == 0) = false := by simpa using c5
            have HO2 := Lib.hid (HOp.out hle)
            go_enter Tryz.func28, Tryz.ntmps28
            go_wp2_with (first | (go_at_call 53; refine HU.out.mono ?_; rintro e w1 ⟨rfl, rfl⟩) | (go_at_call 54; refine HT.out.mono ?_; rintro e w2 ⟨rfl, rfl⟩) | (go_at_call 55; refine HO2.out.mono ?_; rintro e w3 ⟨a3, c3', rfl, hb3⟩; have HB3 := Lib.hid (below_step HBs.out.2.2 hb3); clear hb3) | fail)
            go_ret2
            exact ⟨rfl, HB3.out⟩
          · obtain rfl : oe = 0 := by omega
            rw [if_neg (by simp)]
            clear c5
            have HO2 := Lib.hid (HOp.out hle)
            go_enter Tryz.func28, Tryz.ntmps28
            go_wp2_with (first | (go_at_call 53; refine HU.out.mono ?_; rintro e w1 ⟨rfl, rfl⟩) | (go_at_call 54; refine HT.out.mono ?_; rintro e w2 ⟨rfl, rfl⟩) | (go_at_call 55; refine HO2.out.mono ?_; rintro e w3 ⟨a3, c3', rfl, hb3⟩; have HB3 := Lib.hid (below_step HBs.out.2.2 hb3); clear hb3) | fail)
            go_ret2
            exact ⟨rfl, HB3.out⟩
end Go.Proofs.YthaihallfjjnpaaGreatDoor
