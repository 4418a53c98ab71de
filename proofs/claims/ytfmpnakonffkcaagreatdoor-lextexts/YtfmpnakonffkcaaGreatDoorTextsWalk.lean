/- The walk of LexTexts. -/
import Derived.Test.YtfmpnakonffkcaaGreatDoorLxToks
import Derived.Test.YtfmpnakonffkcaaGreatDoorLxRefO
import Derived.Test.YtfmpnakonffkcaaGreatDoorLxAs
namespace Go.Proofs.YtfmpnakonffkcaaGreatDoor
open Go.RowKit Go.Sort

theorem lexG_len (l : List UInt8) : (lexG l).ts.length ≤ 65536 := by
  unfold lexG
  split
  · exact Nat.zero_le _
  · have := toks_len l 0; omega
set_option maxRecDepth 100000 in
set_option maxHeartbeats 4000000 in
theorem texts_ (s : ByteArray) (w : World) (hE : Env w) (hT : ErrType w) : Calls Tryz.prog 3 #[.string s] w fun e w' => e = .returned (.bool true) ∧ Below w.heap.size w w' := by
  have HEv := Lib.hid (And.intro hE hT)
  have HLx := Lib.hid (lex_ s w hE)
  have HRx := Lib.hid (fun W => rlex_ s W)
  have hlen := lexG_len (lst s)
  generalize lexG (lst s) = R at *
  obtain ⟨L, hL⟩ : ∃ L, R.ts.length = L := ⟨_, rfl⟩
  obtain ⟨P, hP⟩ : ∃ P, R.p = P := ⟨_, rfl⟩
  obtain ⟨E, hEe⟩ : ∃ E, R.e = E := ⟨_, rfl⟩
  unfold LexTo at HLx
  unfold RLexTo at HRx
  rw [hL, hP, hEe] at HLx
  rw [hL, hP, hEe] at HRx
  have HTk : Hid (∀ (a b : Option Addr) (ca cb : Nat) (W : World), TksIn W a R.ts → TksIn W b R.ts → Calls Tryz.prog 8 #[.slice a L ca, .slice b L cb] W fun e w' => e = .returned (.bool true) ∧ Below W.heap.size W w') := fun a b ca cb W h1 h2 => by
    rw [← hL]; exact tokens_ a b ca cb R.ts W h1 h2 (by omega)
  clear hE hT hL hP hEe hlen
  go_enter Tryz.func3, Tryz.ntmps3
  go_wp2_with fail
  refine HLx.out.mono ?_
  rintro e w1 ⟨a, ca, rfl, h1, _, hb1⟩
  have HB1 := Lib.hid hb1
  have H1 := Lib.hid h1
  clear h1 hb1 HLx
  go_wp2_with fail
  refine (HRx.out _).mono ?_
  rintro e w2 ⟨b, cb, rfl, h2, _, hb2⟩
  have HB2 := Lib.hid (below_step HB1.out hb2)
  have H12 := Lib.hid (And.intro (H1.out.on hb2) h2)
  clear h2 hb2 HRx H1 HB1
  go_wp2_with fail
  refine (HTk.out _ _ _ _ _ H12.out.1 H12.out.2).mono ?_
  rintro e w3 ⟨rfl, hb3⟩
  have HB3 := Lib.hid (below_step HB2.out hb3)
  clear hb3 HTk H12 HB2
  go_wp2_with fail
  refine (num_ E _ (HEv.out.2.on HB3.out)).mono ?_
  rintro e w4 ⟨rfl, hb4⟩
  have HB4 := Lib.hid (below_step HB3.out hb4)
  clear hb4 HB3
  go_wp2_with fail
  refine (sure_ _ (HEv.out.1.on HB4.out)).mono ?_
  rintro e w5 ⟨rfl, hb5⟩
  have HB5 := Lib.hid (below_step HB4.out hb5)
  clear hb5 HB4
  go_wp2_with fail
  go_ret
  exact ⟨rfl, HB5.out⟩
end Go.Proofs.YtfmpnakonffkcaaGreatDoor
