/- The walk of LexPrints. -/
import Derived.Test.YtfmpnakonffkcaaGreatDoorLxRPrint
import Derived.Test.YtfmpnakonffkcaaGreatDoorLxAs
namespace Go.Proofs.YtfmpnakonffkcaaGreatDoor
open Go.RowKit Go.Sort

set_option maxRecDepth 100000 in
set_option maxHeartbeats 4000000 in
theorem prints_ (a b : Option Addr) (ca cb : Nat) (xs ys : List Tk) (w : World) (ha : TksIn w a xs) (hb : TksIn w b ys) (hl : xs.length ≤ 1048576) (hm : ys.length ≤ 1048576) (hf : ∀ t ∈ xs, FitT t) (hE : Env w) (hT : ErrType w) :
    Calls Tryz.prog 4 #[.slice a xs.length ca, .slice b ys.length cb] w fun e w' => e = .returned (.bool true) ∧ Below w.heap.size w w' := by
  have HEv := Lib.hid (And.intro hE hT)
  have HI := Lib.hid (And.intro ha hb)
  obtain ⟨r, hr⟩ : ∃ r : Bool, r = true ↔ at0s xs = at0s ys := by
    by_cases h : at0s xs = at0s ys
    · exact ⟨true, by simp [h]⟩
    · exact ⟨false, by simp [h]⟩
  have HG1 := Lib.hid (fun W (hW : Below w.heap.size w W) => give_ a ca xs W (ha.on hW) hl)
  have HG2 := Lib.hid (fun W (hW : Below w.heap.size w W) => give_ b cb ys W (hb.on hW) hm)
  have HPr := Lib.hid (fun W (hW : Below w.heap.size w W) (a' : Option Addr) (c' : Nat) (h : TksIn W a' xs) => print_ a' c' xs W h hl hf (hE.on hW))
  have HRp := Lib.hid (fun W (hW : Below w.heap.size w W) => rprint_ a ca xs W (ha.on hW) hl hf)
  have HSa := Lib.hid (fun W (a' b' : Option Addr) (c' d' : Nat) (h1 : TksIn W a' xs) (h2 : TksIn W b' ys) => lxSame_ a' b' c' d' xs ys W h1 h2 (by omega) (by omega) hr)
  have HRs := Lib.hid (fun W (hW : Below w.heap.size w W) => rsame_ a b ca cb xs ys W (ha.on hW) (hb.on hW) (by omega) (by omega) hr)
  obtain ⟨PS, PE, hPV, hRV⟩ : ∃ (PS : ByteArray) (PE : Int), prnV xs = .tuple #[.string PS, errV 42 PE] ∧ rprnV xs = .tuple #[.string PS, .int .i64 PE] := by
    unfold prnV rprnV
    split
    · exact ⟨_, 0, rfl, rfl⟩
    · exact ⟨_, 3, by simp [errV], rfl⟩
  rw [hPV] at HPr
  rw [hRV] at HRp
  obtain ⟨L, hL⟩ : ∃ L, xs.length = L := ⟨_, rfl⟩
  obtain ⟨M, hM⟩ : ∃ M, ys.length = M := ⟨_, rfl⟩
  rw [hL] at HG1 HPr HRp HSa HRs ⊢
  rw [hM] at HG2 HSa HRs ⊢
  clear ha hb hE hT hl hm hf hr hPV hRV hL hM
  go_enter Tryz.func4, Tryz.ntmps4
  go_wp2_with fail
  refine (HG1.out _ (Below.refl _ _)).mono ?_
  rintro e w1 ⟨a1, c1, rfl, h1, hb1⟩
  have HB1 := Lib.hid hb1
  have H1 := Lib.hid h1
  clear h1 hb1
  go_wp2_with fail
  refine (HPr.out _ HB1.out _ _ H1.out).mono ?_
  rintro e w2 ⟨rfl, hb2⟩
  have HB2 := Lib.hid (below_step HB1.out hb2)
  clear hb2 H1 HB1 HPr
  go_wp2_with fail
  refine (HRp.out _ HB2.out).mono ?_
  rintro e w3 ⟨rfl, hb3⟩
  have HB3 := Lib.hid (below_step HB2.out hb3)
  clear hb3 HB2 HRp
  go_wp2_with fail
  refine (num_ PE _ (HEv.out.2.on HB3.out)).mono ?_
  rintro e w4 ⟨rfl, hb4⟩
  have HB4 := Lib.hid (below_step HB3.out hb4)
  clear hb4 HB3
  go_wp2_with fail
  refine (HG1.out _ HB4.out).mono ?_
  rintro e w5 ⟨a5, c5, rfl, h5, hb5⟩
  have HB5 := Lib.hid (below_step HB4.out hb5)
  have H5 := Lib.hid h5
  clear h5 hb5 HB4 HG1
  go_wp2_with fail
  refine (HG2.out _ HB5.out).mono ?_
  rintro e w6 ⟨a6, c6, rfl, h6, hb6⟩
  have HB6 := Lib.hid (below_step HB5.out hb6)
  have H6 := Lib.hid (And.intro (H5.out.on hb6) h6)
  clear h6 hb6 HB5 HG2 H5
  go_wp2_with fail
  refine (HSa.out _ _ _ _ _ H6.out.1 H6.out.2).mono ?_
  rintro e w7 ⟨rfl, hb7⟩
  have HB7 := Lib.hid (below_step HB6.out hb7)
  clear hb7 HB6 HSa H6
  go_wp2_with fail
  refine (HRs.out _ HB7.out).mono ?_
  rintro e w8 ⟨rfl, hb8⟩
  have HB8 := Lib.hid (below_step HB7.out hb8)
  clear hb8 HB7 HRs
  have hrr : (r == r) = true := by cases r <;> rfl
  go_wp2_with fail
  refine (sure_ _ (HEv.out.1.on HB8.out)).mono ?_
  rintro e w9 ⟨rfl, hb9⟩
  have HB9 := Lib.hid (below_step HB8.out hb9)
  clear hb9 HB8
  go_wp2_with fail
  go_ret
  exact ⟨rfl, HB9.out⟩
end Go.Proofs.YtfmpnakonffkcaaGreatDoor
