/- The walk of the law RecordFrames. -/
import Derived.Test.YtbplklfkkmhijaaDoorRcAs
import Derived.Test.YtbplklfkkmhijaaDoorRcRef
import Derived.BigQuiet
namespace Go.Proofs.YtbplklfkkmhijaaDoor
open Go.RowKit Go.Sort

theorem lenR_frm (ep : Nat) (xs : List Nat) : lenR ep xs.length = ((frm ep xs).1.length, (frm ep xs).2) := by
  unfold lenR frm
  by_cases h : refu xs.length = 0
  · rw [if_pos h, if_pos h, recB_length, Int.toNat_natCast]
  · rw [if_neg h, if_neg h]; rfl
theorem lenR_err (ep : Nat) (n : Int) : (lenR ep n).2 = refu n := by
  unfold lenR
  by_cases h : refu n = 0
  · rw [if_pos h, h]
  · rw [if_neg h]
set_option maxRecDepth 100000 in
set_option maxHeartbeats 4000000 in
theorem frames_law (ep : Nat) (a : Option Addr) (xs : List Nat) (c : Nat) (n : Int) (w : World) (h : BytesIn w a xs) (hx : ∀ x ∈ xs, x < 256) (hc : a = none → c = 0) (hlim : xs.length ≤ 140737488351232) (he : ep < 18446744073709551616) (hn : -9223372036854775808 ≤ n ∧ n ≤ 9223372036854775807) (hE : ErrType w) :
    Calls Tryd.prog 3 #[.int .u64 ep, .slice a xs.length c, .int .i64 n] w fun e w' => e = .returned (.bool true) ∧ Below w.heap.size w w' := by
  have HT := Lib.hid (twin_ a xs c w h hc (by omega))
  have HF : Hid (∀ W a' c', BytesIn W a' xs → (a' = none → c' = 0) → Calls Tryd.prog 7 #[.int .u64 ep, .slice a' xs.length c'] W fun e w' => ∃ a c, e = .returned (.tuple #[.slice a (frm ep xs).1.length c, errV (frm ep xs).2]) ∧ BytesIn w' a (frm ep xs).1 ∧ Below W.heap.size W w') := Lib.hid fun W a' c' h1 h2 => (frame_ ep a' xs c' W h1 hx h2 he (by omega)).mono fun e w' ⟨a, c, q1, _, q2, _, q3⟩ => ⟨a, c, q1, q2, q3⟩
  have HR : Hid (∀ W, BytesIn W a xs → Calls Tryd.prog 9 #[.int .u64 ep, .slice a xs.length c] W fun e w' => ∃ a c, e = .returned (.tuple #[.slice a (frm ep xs).1.length c, .int .i64 (frm ep xs).2]) ∧ BytesIn w' a (frm ep xs).1 ∧ Below W.heap.size W w') := Lib.hid fun W h1 => rframe_ ep a xs c W h1 hx hc he (by omega)
  have HLn : Hid (∀ W, Calls Tryd.prog 10 #[.int .u64 ep, .int .i64 (xs.length : Nat)] W fun e w' => e = .returned (.tuple #[.int .i64 (frm ep xs).1.length, errV (frm ep xs).2]) ∧ w' = W) := Lib.hid fun W => by
    have := rlen_ ep xs.length W he (by omega) (by omega)
    rw [lenR_frm] at this
    exact this
  have HLm : Hid (∀ W, Calls Tryd.prog 10 #[.int .u64 ep, .int .i64 n] W fun e w' => e = .returned (.tuple #[.int .i64 (lenR ep n).1, errV (refu n)]) ∧ w' = W) := Lib.hid fun W => by
    have := rlen_ ep n W he hn.1 hn.2
    rw [lenR_err] at this
    exact this
  have HSU : Hid (∀ W, Calls Tryd.prog 12 #[] W fun e w' => e = .returned (.bool true) ∧ Below W.heap.size W w') := sure_
  have HE := Lib.hid hE
  have HB := Lib.hid h
  have HN1 := Lib.hid (num_ (frm ep xs).2)
  have HN2 := Lib.hid (num_ (refu n))
  have hre : Hid (refu n = if n < 1 then 1 else if 1048576 < n then 2 else 0) := Lib.hid rfl
  obtain ⟨ev, hev⟩ : ∃ ev, ev = errV (frm ep xs).2 := ⟨_, rfl⟩
  obtain ⟨ew, hew⟩ : ∃ ew, ew = errV (refu n) := ⟨_, rfl⟩
  rw [← hev] at HF HLn HN1
  rw [← hew] at HLm HN2
  generalize (frm ep xs).2 = er at *
  generalize (frm ep xs).1 = ys at *
  generalize refu n = rn at *
  generalize (lenR ep n).1 = ln at *
  obtain ⟨ly, hly⟩ : ∃ ly, ys.length = ly := ⟨_, rfl⟩
  rw [hly] at HF HR HLn
  have HLY := Lib.hid hly
  obtain ⟨len, hlen⟩ : ∃ len, xs.length = len := ⟨_, rfl⟩
  rw [hlen] at HT HF HR HLn hlim ⊢
  have HL := Lib.hid hlen
  have key : ∀ bad : Nat, rn = bad → (if n < 1 then 1 else if 1048576 < n then 2 else 0) = bad := fun bad hh => by rw [← hre.out]; exact hh
  clear hev hew h hx hc hE hly hlen
  have hcases : (n < 1 ∧ rn = 1) ∨ (¬ n < 1 ∧ 1048576 < n ∧ rn = 2) ∨ (¬ n < 1 ∧ ¬ 1048576 < n ∧ rn = 0) := by
    have hh := hre.out
    by_cases h1 : n < 1
    · rw [if_pos h1] at hh; exact .inl ⟨h1, hh⟩
    · rw [if_neg h1] at hh
      by_cases h2 : 1048576 < n
      · rw [if_pos h2] at hh; exact .inr (.inl ⟨h1, h2, hh⟩)
      · rw [if_neg h2] at hh; exact .inr (.inr ⟨h1, h2, hh⟩)
  clear key hre
  go_enter Tryd.func3, Tryd.ntmps3
  go_wp2_with fail
  refine HT.out.mono ?_
  rintro e w1 ⟨a1, c1, rfl, hO1, hI1, hN1, hb1⟩
  have HI1 := Lib.hid hI1
  have HNN1 := Lib.hid hN1
  have Hb1 := Lib.hid hb1
  rw [HL.out]
  clear hO1 hI1 hN1 hb1 HT
  go_wp2_with fail
  refine (HF.out w1 _ _ HI1.out HNN1.out).mono ?_
  rintro e w2 ⟨a2, c2, rfl, hi2, hb2⟩
  have HI2 := Lib.hid hi2
  have Hb2 := Lib.hid (below_step Hb1.out hb2)
  clear hi2 hb2 HF HI1 HNN1 Hb1
  go_wp2_with fail
  refine (HR.out w2 (HB.out.on Hb2.out)).mono ?_
  rintro e w3 ⟨a3, c3, rfl, hi3, hb3⟩
  have HI3 := Lib.hid hi3
  have HI23 := Lib.hid (HI2.out.on hb3)
  have Hb3 := Lib.hid (below_step Hb2.out hb3)
  clear hi3 hb3 HR HI2
  go_wp2_with fail
  refine (HLn.out w3).mono ?_
  rintro e w4 ⟨rfl, rfl⟩
  go_wp2_with fail
  refine (HLm.out w4).mono ?_
  rintro e w5 ⟨rfl, rfl⟩
  have HEw := Lib.hid (HE.out.on Hb3.out)
  have cv1 := conv_ w5 a2 ly c2 ys HLY.out.symm HI23.out
  have cv2 := conv_ w5 a3 ly c3 ys HLY.out.symm HI3.out
  generalize bs ys = sy at *
  clear HLn HLm
  rcases hcases with ⟨h1, rfl⟩ | ⟨h1, h2, rfl⟩ | ⟨h1, h2, rfl⟩
  all_goals
    go_wp2_with fail
    refine (HN1.out w5 HEw.out).mono ?_
    rintro e w6 ⟨rfl, hb6⟩
    have Hb6 := Lib.hid (below_step Hb3.out hb6)
    clear hb6
    go_wp2_with fail
    refine (HN1.out w6 (HE.out.on Hb6.out)).mono ?_
    rintro e w7 ⟨rfl, hb7⟩
    have Hb7 := Lib.hid (below_step Hb6.out hb7)
    clear hb7
    go_wp2_with fail
    refine (HN2.out w7 (HE.out.on Hb7.out)).mono ?_
    rintro e w8 ⟨rfl, hb8⟩
    have Hb8 := Lib.hid (below_step Hb7.out hb8)
    clear hb8
    go_wp2_with fail
    refine (HSU.out w8).mono ?_
    rintro e w9 ⟨rfl, hb9⟩
    have Hb9 := Lib.hid (below_step Hb8.out hb9)
    clear hb9
    go_wp2_with fail
    go_ret
    exact ⟨rfl, Hb9.out⟩
end Go.Proofs.YtbplklfkkmhijaaDoor
