/- The walks of the document's Int and Text. -/
import Derived.Test.YtlldamgnfaikhaaDoorKRefRead
namespace Go.Proofs.YtlldamgnfaikhaaDoor
open Go.RowKit Go.Sort

set_option maxRecDepth 100000 in
set_option maxHeartbeats 1000000 in
theorem rtext_ (a : Option Addr) (xs : List Nat) (c : Nat) (most : Int) (w : World) (h : BytesIn w a xs) (hb : ∀ x ∈ xs, x < 256) (hlim : xs.length ≤ 9223372036854775807) (hm0 : -9223372036854775808 ≤ most) (hm1 : most ≤ 9223372036854775807) (hcap : xs.length ≤ c) :
    Calls Tryd.prog 23 #[.slice a xs.length c, .int .i64 most] w fun e w' => e = .returned (.tuple #[.string (bs (rdT xs most).1), .int .i64 (rdT xs most).2.1, .int .i64 (rdT xs most).2.2]) ∧ w' = w := by
  have HU := Lib.hid (ruint_ a xs c w h hb hlim)
  have hlt := rdU_lt xs hb
  have hpos : (rdU xs).2.2 = 0 → 0 < (rdU xs).2.1 := fun hh => (rdU_back xs hb hh).2.1
  have herr := rdU_err xs
  have HB := Lib.hid h
  have hbn : bs [] = ⟨#[]⟩ := rfl
  unfold rdT
  generalize rdU xs = R at *
  obtain ⟨v, k, e⟩ := R
  simp only at herr hlt hpos
  clear h hb
  by_cases h0 : most < 0
  · rw [if_pos h0]
    clear herr hpos hlt HU HB
    generalize xs.length = len at *
    go_enter Tryd.func23, Tryd.ntmps23
    go_wp2_with fail
    go_ret3
    exact ⟨rfl, rfl⟩
  · rw [if_neg h0]
    by_cases he : e = 0
    · subst he
      rw [if_neg (by simp)]
      by_cases h1 : most < v
      · rw [if_pos h1]
        clear herr hpos HB
        generalize xs.length = len at *
        go_enter Tryd.func23, Tryd.ntmps23
        go_wp2_with fail
        refine HU.out.mono ?_
        rintro e w1 ⟨rfl, rfl⟩
        go_wp2_with fail
        go_ret3
        exact ⟨rfl, rfl⟩
      · rw [if_neg h1]
        by_cases h2 : xs.length - k < v
        · rw [if_pos h2]
          clear herr hpos HB
          generalize xs.length = len at *
          go_enter Tryd.func23, Tryd.ntmps23
          go_wp2_with fail
          refine HU.out.mono ?_
          rintro e w1 ⟨rfl, rfl⟩
          go_wp2_with fail
          go_ret3
          exact ⟨rfl, rfl⟩
        · rw [if_neg h2]
          have hkp := hpos rfl
          obtain ⟨b, o, rfl, _⟩ := HB.out 0 (by omega)
          have hpart := HB.out.part (k := k) (n := v) (by omega)
          have hpl : ((xs.drop k).take v).length = v := by simp; omega
          have hcv := conv_ w _ v (c - k) _ hpl.symm hpart
          have hc0 : v = 0 → (convert 26 9 (.slice (some ⟨b, o, none⟩) 0 0)).run Tryd.prog w = .ok (.string (bs ((xs.drop k).take v))) w := fun hv => by
            subst hv
            rw [List.take_zero]
            exact conv_ w _ 0 0 [] rfl (bytesIn_nil _ _)
          simp only [Int.natCast_add]
          generalize (xs.drop k).take v = ts at *
          clear herr hpos HB hpart hpl
          generalize xs.length = len at *
          have hkl := hlt.2
          have hb1 : (0 : Int) ≤ (k : Int) + v := by omega
          have hb2 : (k : Int) + v ≤ c := by omega
          by_cases hck : c = k
          · subst hck
            obtain rfl : v = 0 := by omega
            have hcv0 := hc0 rfl
            clear hcv hc0
            simp only [Int.natCast_zero, Int.add_zero] at hb1 hb2 ⊢
            go_enter Tryd.func23, Tryd.ntmps23
            go_wp2_with fail
            refine HU.out.mono ?_
            rintro e w1 ⟨rfl, rfl⟩
            go_wp2_with fail
            go_ret3
            exact ⟨rfl, rfl⟩
          · clear hc0
            go_enter Tryd.func23, Tryd.ntmps23
            go_wp2_with fail
            refine HU.out.mono ?_
            rintro e w1 ⟨rfl, rfl⟩
            go_wp2_with fail
            go_ret3
            exact ⟨rfl, rfl⟩
    · obtain ⟨rfl, rfl⟩ := herr he
      rw [if_pos (by simpa using he)]
      clear hpos HB hlt
      generalize xs.length = len at *
      have hei : ((e : Int) != 0) = true := by rw [bne_iff_ne]; omega
      go_enter Tryd.func23, Tryd.ntmps23
      go_wp2_with fail
      refine HU.out.mono ?_
      rintro e w1 ⟨rfl, rfl⟩
      go_wp2_with fail
      go_ret3
      exact ⟨rfl, rfl⟩
end Go.Proofs.YtlldamgnfaikhaaDoor
