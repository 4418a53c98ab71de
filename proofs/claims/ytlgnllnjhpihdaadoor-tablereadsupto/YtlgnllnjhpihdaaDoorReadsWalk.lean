/- The walk of TableReads. -/
import Derived.Test.YtlgnllnjhpihdaaDoorTbRParse
import Derived.Test.YtlgnllnjhpihdaaDoorTbAs
namespace Go.Proofs.YtlgnllnjhpihdaaDoor
open Go.RowKit Go.Sort

set_option maxRecDepth 100000 in
set_option maxHeartbeats 2000000 in
theorem law_reads (s : ByteArray) (w : World) (hs : s.size ≤ 1048576) (hm : MaxAt w) (hE : ErrType w) :
    Calls Tryd.prog 4 #[.string s] w fun e w' => e = .returned (.bool true) ∧ Below w.heap.size w w' := by
  have HP := Lib.hid (readAt (s := s) (V := w) (by omega) hm)
  have HQ : Hid (∀ W, Calls Tryd.prog 22 #[.string s] W (RParseTo W (lst s))) := fun W => rparse_ s W hs
  have HM := Lib.hid hm
  have HEr := Lib.hid hE
  have HPl : Hid ((prsT (lst s)).cs.length ≤ 17) := by
    show _ ≤ _
    unfold prsT
    split
    · show ((Lib.splitN _ _ 17).map gCol).length ≤ 17
      rw [List.length_map]
      exact Nat.le_trans (splitK_len _ _ _) (by omega)
    · simp
  have HSm : Hid (∀ V a a' c c', ColsIn V a (prsT (lst s)).cs → ColsIn V a' (prsT (lst s)).cs → Calls Tryd.prog 19 #[.agg #[.string (prsT (lst s)).nm, .slice a (prsT (lst s)).cs.length c], .agg #[.string (prsT (lst s)).nm, .slice a' (prsT (lst s)).cs.length c']] V fun e w' => e = .returned (.bool true) ∧ Below V.heap.size V w') := fun V a a' c c' h h' => by
    refine (same_ _ _ a a' c c' _ _ V h h' (Nat.le_trans HPl.out (by decide)) (Nat.le_trans HPl.out (by decide))).mono ?_
    rintro e w' ⟨r, rfl, hr, hb⟩
    rw [hr.2 ⟨rfl, rfl⟩]
    exact ⟨rfl, hb⟩
  have HN : Hid (∀ W, ErrType W → Calls Tryd.prog 16 #[errV 63 (prsE (lst s))] W fun e w' => e = .returned (.int .i64 (prsE (lst s))) ∧ Below W.heap.size W w') := fun W hW => num_ _ W hW
  have HSu : Hid (∀ V, MaxAt V → Calls Tryd.prog 20 #[] V fun e w' => e = .returned (.bool true) ∧ Below V.heap.size V w') := fun V hV => sure_ V hV
  unfold RParseTo at HQ
  generalize errV 63 (prsE (lst s)) = EV at *
  generalize prsE (lst s) = PE at *
  generalize (prsT (lst s)).nm = pn at *
  generalize (prsT (lst s)).cs = pc at *
  generalize pc.length = pl at *
  clear hs hm hE
  go_enter Tryd.func4, Tryd.ntmps4
  go_wp2_with fail
  refine HP.out.mono ?_
  rintro e w1 ⟨a1, c1, rfl, ⟨h1, _⟩, hb1⟩
  have hb2 := below_step hb1 (below_alloc1 w1 (.cells #[.string pn, .slice a1 pl c1] 24))
  have HB2 := Lib.hid hb2
  have HI2 := Lib.hid (h1.on (below_alloc1 w1 (.cells #[.string pn, .slice a1 pl c1] 24)))
  have HT2 := Lib.hid (inT_new w1 pn a1 pl c1 24)
  obtain ⟨W2, hW2⟩ : ∃ W2, W2 = w1.alloc (.cells #[.string pn, .slice a1 pl c1] 24) := ⟨_, rfl⟩
  have HW2 := Lib.hid hW2.symm
  rw [← hW2] at HB2 HI2 HT2
  clear h1 hb1 hb2 hW2 HP
  go_wp2_with fail
  rw [HW2.out]
  refine (HQ.out _).mono ?_
  rintro e w3 ⟨a3, c3, rfl, h3, hb3⟩
  have HB4 := Lib.hid (below_step (below_step HB2.out hb3) (below_alloc1 w3 (.cells #[.string pn, .slice a3 pl c3] 24)))
  have HI4 := Lib.hid ((HI2.out.on hb3).on (below_alloc1 w3 (.cells #[.string pn, .slice a3 pl c3] 24)))
  have HJ4 := Lib.hid (h3.on (below_alloc1 w3 (.cells #[.string pn, .slice a3 pl c3] 24)))
  obtain ⟨t0, t1⟩ := (HT2.out.on hb3).on (below_alloc1 w3 (.cells #[.string pn, .slice a3 pl c3] 24))
  have HT3 := Lib.hid (HT2.out.on hb3)
  obtain ⟨u0, u1⟩ := HT3.out
  clear h3 hb3 HQ HW2 HB2 HI2 HT2
  go_wp2_with fail
  refine (HSm.out _ _ _ _ _ HI4.out HJ4.out).mono ?_
  rintro e w5 ⟨rfl, hb5⟩
  have HB5 := Lib.hid (below_step HB4.out hb5)
  clear t0 t1 u0 u1 hb5 HSm HI4 HJ4 HB4 HT3
  go_wp2_with fail
  refine (HN.out _ (HEr.out.on HB5.out)).mono ?_
  rintro e w6 ⟨rfl, hb6⟩
  have HB6 := Lib.hid (below_step HB5.out hb6)
  clear hb6 HN HB5
  go_wp2_with (first | (go_at_call 20; refine (HSu.out _ (HM.out.on HB6.out)).mono ?_; rintro e w7 ⟨rfl, hb7⟩) | fail)
  go_ret
  exact ⟨rfl, below_step HB6.out hb7⟩
end Go.Proofs.YtlgnllnjhpihdaaDoor
