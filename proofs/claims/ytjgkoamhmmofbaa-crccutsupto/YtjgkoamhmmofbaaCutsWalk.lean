/- The walk of the law CrcCuts. -/
import Derived.Test.YtjgkoamhmmofbaaOpen
namespace Go.Proofs.Ytjgkoamhmmofbaa
open Go.RowKit Go.Sort

theorem opn_seal (xs : List Nat) : opn (xs ++ four (sm 0 xs)) = (xs, 0) := by
  have hl : (xs ++ four (sm 0 xs)).length - 4 = xs.length := by rw [List.length_append, four_length]; omega
  unfold opn
  rw [if_neg (by rw [List.length_append, four_length]; omega), hl, List.drop_left, List.take_left, if_pos rfl]
theorem seal_byte (xs : List Nat) (hx : ∀ x ∈ xs, x < 256) : ∀ x ∈ xs ++ four (sm 0 xs), x < 256 := by
  intro x hm
  rcases List.mem_append.1 hm with h | h
  · exact hx x h
  · exact four_byte _ x h
theorem Own.cap {w : World} {base n c : Nat} {a : Option Addr} {xs : List Nat} (h : Own w base (.slice a n c) xs) : xs.length ≤ c := by
  rcases h.2 with ⟨h', e⟩ | ⟨g', cap', cur, h', _, _, hnc, _⟩
  · cases h'
    omega
  · cases h'
    exact hnc
set_option maxRecDepth 100000 in
set_option maxHeartbeats 4000000 in
theorem cuts_ (a b : Option Addr) (xs ys : List Nat) (c d : Nat) (w : World) (h : BytesIn w a xs) (hx : ∀ x ∈ xs, x < 256) (hc : a = none → c = 0) (hlim : xs.length ≤ 1048576)
    (h2 : BytesIn w b ys) (hy : ∀ x ∈ ys, x < 256) (hd : b = none → d = 0) (hlim2 : ys.length ≤ 1048576) :
    Calls Try.prog 4 #[.slice a xs.length c, .slice b ys.length d] w fun e w' => e = .returned (.bool true) ∧ Below w.heap.size w w' := by
  have HB := Lib.hid h
  have HB2 := Lib.hid h2
  have Hx := Lib.hid hx
  have Hy := Lib.hid hy
  have HC := Lib.hid hc
  have HD := Lib.hid hd
  clear h h2 hx hy hc hd
  obtain ⟨lx, hlx⟩ : ∃ lx, xs.length = lx := ⟨_, rfl⟩
  obtain ⟨ly, hly⟩ : ∃ ly, ys.length = ly := ⟨_, rfl⟩
  rw [hlx] at hlim ⊢
  rw [hly] at hlim2 ⊢
  have HLX := Lib.hid hlx
  have HLY := Lib.hid hly
  clear hlx hly
  go_enter Try.func4, Try.ntmps4
  go_wp2_with (first
    | (at_builtin; refine wpList_append_bytes _ rfl _ _ rfl w.heap.size _ [] xs rfl (own_nil _ _) a lx c rfl HLX.out HC.out HB.out (by rw [HLX.out]; simp; omega) (Nat.le_refl _) ?_
       intro v1 w1 hown hgrow
       have HO1 := Lib.hid hown
       have Hb1 := Lib.hid (below_grow (Below.refl _ _) (own_nil w w.heap.size) hgrow)
       have hs1 := Hb1.out.size
       clear hown hgrow)
    | (at_builtin; refine wpList_append_bytes _ rfl _ _ rfl w.heap.size _ ([] ++ xs) ys rfl HO1.out b ly d rfl HLY.out HD.out (HB2.out.on Hb1.out) (by rw [List.nil_append, HLX.out, HLY.out]; omega) hs1 ?_
       intro v2 w2 hown hgrow
       have HO2 := Lib.hid hown
       have Hb2 := Lib.hid (below_grow Hb1.out HO1.out hgrow)
       have hs2 := Hb2.out.size
       clear hown hgrow)
    | fail)
  obtain ⟨a2, c2, rfl, hI2, hN2⟩ := HO2.out.bytes
  rw [List.nil_append] at hI2
  have hbX : ∀ x ∈ xs ++ ys, x < 256 := fun x hm => by
    rcases List.mem_append.1 hm with h | h
    · exact Hx.out x h
    · exact Hy.out x h
  have hlX : (xs ++ ys).length = lx + ly := by rw [List.length_append, HLX.out, HLY.out]
  have hlS : ((xs ++ ys) ++ four (sm 0 (xs ++ ys))).length = lx + ly + 4 := by rw [List.length_append, hlX, four_length]
  have hbS := seal_byte (xs ++ ys) hbX
  have HTX : Hid (∀ W, BytesIn W a2 (xs ++ ys) → Calls Try.prog 7 #[.slice a2 (lx + ly) c2] W fun e w' => ∃ a' c', e = .returned (.slice a' (lx + ly) c') ∧ BytesIn w' a' (xs ++ ys) ∧ (a' = none → c' = 0) ∧ Below W.heap.size W w') := Lib.hid fun W hW => by
    have := twin_ a2 (xs ++ ys) c2 W hW hN2 (by omega)
    rw [hlX] at this
    refine this.mono fun e w' hh => ?_
    obtain ⟨a', c', h1, _, h3, h4, h5⟩ := hh
    exact ⟨a', c', by rw [← hlX]; exact h1, h3, h4, h5⟩
  have HSE : Hid (∀ W a' c', BytesIn W a' (xs ++ ys) → (a' = none → c' = 0) → Calls Try.prog 14 #[.slice a' (lx + ly) c'] W fun e w' => ∃ a' c', e = .returned (.slice a' (lx + ly + 4) c') ∧ BytesIn w' a' ((xs ++ ys) ++ four (sm 0 (xs ++ ys))) ∧ lx + ly + 4 ≤ c' ∧ Below W.heap.size W w') := Lib.hid fun W a' c' hW hN => by
    have := seal_ a' (xs ++ ys) c' W hW hbX hN (by omega)
    rw [hlX] at this
    refine this.mono fun e w' hh => ?_
    obtain ⟨a', c', h1, h2, h3, h4, h5⟩ := hh
    exact ⟨a', c', by rw [← hlS]; exact h1, h3, by rw [← hlS]; exact h2.cap, h5⟩
  have HOP : Hid (∀ W a' c', BytesIn W a' ((xs ++ ys) ++ four (sm 0 (xs ++ ys))) → lx + ly + 4 ≤ c' → Calls Try.prog 13 #[.slice a' (lx + ly + 4) c'] W fun e w' => ∃ a' c', e = .returned (.tuple #[.slice a' (lx + ly) c', .nilIface]) ∧ BytesIn w' a' (xs ++ ys) ∧ Below W.heap.size W w') := Lib.hid fun W a' c' hW hcp => by
    have := open_ a' ((xs ++ ys) ++ four (sm 0 (xs ++ ys))) c' W hW hbS (by omega) (by omega)
    rw [hlS, opn_seal] at this
    refine this.mono fun e w' hh => ?_
    obtain ⟨a', c', h1, h2, h3, h4, h5⟩ := hh
    exact ⟨a', c', by rw [← hlX]; exact h1, h3, h5⟩
  have HSX : Hid (∀ W, BytesIn W a2 (xs ++ ys) → Calls Try.prog 9 #[.slice a2 (lx + ly) c2] W fun e w' => e = .returned (.int .u32 (sm 0 (xs ++ ys) : Nat)) ∧ Below W.heap.size W w') := Lib.hid fun W hW => by
    have := sum_ a2 (xs ++ ys) c2 W hW hbX (by omega)
    rw [hlX] at this
    exact this
  have HTa : Hid (∀ W, BytesIn W a xs → Calls Try.prog 7 #[.slice a lx c] W fun e w' => ∃ a' c', e = .returned (.slice a' lx c') ∧ BytesIn w' a' xs ∧ Below W.heap.size W w') := Lib.hid fun W hW => by
    have := twin_ a xs c W hW HC.out (by rw [HLX.out]; omega)
    rw [HLX.out] at this
    refine this.mono fun e w' hh => ?_
    obtain ⟨a', c', h1, _, h3, h4, h5⟩ := hh
    exact ⟨a', c', by rw [← HLX.out]; exact h1, h3, h5⟩
  have HTb : Hid (∀ W, BytesIn W b ys → Calls Try.prog 7 #[.slice b ly d] W fun e w' => ∃ a' c', e = .returned (.slice a' ly c') ∧ BytesIn w' a' ys ∧ Below W.heap.size W w') := Lib.hid fun W hW => by
    have := twin_ b ys d W hW HD.out (by rw [HLY.out]; omega)
    rw [HLY.out] at this
    refine this.mono fun e w' hh => ?_
    obtain ⟨a', c', h1, _, h3, h4, h5⟩ := hh
    exact ⟨a', c', by rw [← HLY.out]; exact h1, h3, h5⟩
  have HSa : Hid (∀ W a' c', BytesIn W a' xs → Calls Try.prog 9 #[.slice a' lx c'] W fun e w' => e = .returned (.int .u32 (sm 0 xs : Nat)) ∧ Below W.heap.size W w') := Lib.hid fun W a' c' hW => by
    have := sum_ a' xs c' W hW Hx.out (by rw [HLX.out]; omega)
    rw [HLX.out] at this
    exact this
  have HUb : Hid (∀ W a' c', BytesIn W a' ys → Calls Try.prog 6 #[.int .u32 (sm 0 xs : Nat), .slice a' ly c'] W fun e w' => e = .returned (.int .u32 (sm 0 (xs ++ ys) : Nat)) ∧ Below W.heap.size W w') := Lib.hid fun W a' c' hW => by
    have := upd_ (sm 0 xs) a' ys c' W hW Hy.out (sm_lt _ _) (by rw [HLY.out]; omega)
    rw [HLY.out, sm_append 0 xs ys Hx.out] at this
    exact this
  have HSU : Hid (∀ W, Calls Try.prog 12 #[] W fun e w' => e = .returned (.bool true) ∧ Below W.heap.size W w') := sure_
  have HI2 := Lib.hid hI2
  have hlX2 : ([] ++ xs ++ ys).length = lx + ly := by rw [List.nil_append]; exact hlX
  rw [hlX2]
  have HLX2 := Lib.hid hlX
  clear hI2 hlX hlX2 hlS hbX hbS HO1 HO2 hN2
  generalize (xs ++ ys) ++ four (sm 0 (xs ++ ys)) = SX at *
  generalize sm 0 (xs ++ ys) = sX at *
  generalize sm 0 xs = sa at *
  generalize xs ++ ys = X at *
  generalize lx + ly = lX at *
  refine (HTX.out w2 HI2.out).mono ?_
  rintro e w3 ⟨a3, c3, rfl, hI3, hN3, hb3⟩
  have HI3 := Lib.hid hI3
  have HN3 := Lib.hid hN3
  have HI23 := Lib.hid (HI2.out.on hb3)
  have Hb3 := Lib.hid (below_step Hb2.out hb3)
  clear hI3 hN3 hb3 HI2 Hb2 HTX
  go_wp2_with fail
  refine (HSE.out w3 _ _ HI3.out HN3.out).mono ?_
  rintro e w4 ⟨a4, c4, rfl, hI4, hN4, hb4⟩
  have HI4 := Lib.hid hI4
  have HN4 := Lib.hid hN4
  have HI24 := Lib.hid (HI23.out.on hb4)
  have Hb4 := Lib.hid (below_step Hb3.out hb4)
  clear hI4 hN4 hb4 HI23 Hb3 HSE HI3 HN3
  go_wp2_with fail
  refine (HOP.out w4 _ _ HI4.out HN4.out).mono ?_
  rintro e W ⟨a5, c5, rfl, hI5, hb5⟩
  have HI5 := Lib.hid hI5
  have HI25 := Lib.hid (HI24.out.on hb5)
  have Hb5 := Lib.hid (below_step Hb4.out hb5)
  clear hI5 hb5 HI24 Hb4 HOP HI4 HN4
  go_wp2_with fail
  refine (HTa.out W (HB.out.on Hb5.out)).mono ?_
  rintro e w6 ⟨a6, c6, rfl, hI6, hb6⟩
  have HI6 := Lib.hid hI6
  have Hb6 := Lib.hid hb6
  clear hI6 hb6
  go_wp2_with fail
  refine (HSa.out w6 _ _ HI6.out).mono ?_
  rintro e w7 ⟨rfl, hb7⟩
  have Hb7 := Lib.hid (below_step Hb6.out hb7)
  clear hb7 HI6 Hb6
  go_wp2_with fail
  refine (HTb.out w7 (HB2.out.on (below_step Hb5.out Hb7.out))).mono ?_
  rintro e w8 ⟨a8, c8, rfl, hI8, hb8⟩
  have HI8 := Lib.hid hI8
  have Hb8 := Lib.hid (below_step Hb7.out hb8)
  clear hI8 hb8 Hb7
  go_wp2_with fail
  refine (HUb.out w8 _ _ HI8.out).mono ?_
  rintro e w9 ⟨rfl, hb9⟩
  have Hb9 := Lib.hid (below_step Hb8.out hb9)
  clear hb9 HI8 Hb8
  go_wp2_with fail
  refine (HSX.out w9 (HI25.out.on Hb9.out)).mono ?_
  rintro e w10 ⟨rfl, hb10⟩
  have Hb10 := Lib.hid (below_step Hb9.out hb10)
  clear hb10 Hb9
  have CO : (convert 23 9 (.slice a5 lX c5)).run Try.prog w10 = .ok (.string (bs X)) w10 := conv_ w10 a5 lX c5 X HLX2.out.symm (HI5.out.on Hb10.out)
  have CX : (convert 23 9 (.slice a2 lX c2)).run Try.prog w10 = .ok (.string (bs X)) w10 := conv_ w10 a2 lX c2 X HLX2.out.symm (HI25.out.on Hb10.out)
  generalize bs X = sX' at *
  go_wp2_with fail
  refine (HSU.out w10).mono ?_
  rintro e w11 ⟨rfl, hb11⟩
  have Hb11 := Lib.hid (below_step Hb5.out (below_step Hb10.out hb11))
  clear hb11
  go_wp2_with fail
  go_ret
  exact ⟨rfl, Hb11.out⟩
end Go.Proofs.Ytjgkoamhmmofbaa
