/- The document's ends. -/
import Derived.Test.YtjnhcanohefjiaaGreatDoorJJK
import Derived.Test.YtjnhcanohefjiaaGreatDoorJJA
import Derived.Test.YtjnhcanohefjiaaGreatDoorRcRef
namespace Go.Proofs.YtjnhcanohefjiaaGreatDoor
open Go.RowKit Go.Sort Go.Maps

set_option maxRecDepth 100000 in
set_option maxHeartbeats 1000000 in
theorem rends_ (ep : Nat) (la : Option Addr) (yss : List (List Nat)) (n c : Nat) (w : World) (h : ListIn w la yss) (hn : yss.length = n) (hok : ∀ p ∈ yss, OkP p) (he : ep < 18446744073709551616) (hlim : (allB ep yss).length ≤ 1048576) (hcnt : n ≤ 1048576) :
    Calls Tryz.prog 32 #[.int .u64 ep, .slice la n c] w fun e w' => ∃ v, e = .returned v ∧ OwnI w' w.heap.size v (endsL ep yss) ∧ Below w.heap.size w w' := by
  have HI := Lib.hid h
  have HSt : Hid (∀ i, i < n → (allB ep (yss.take (i + 1))).length = (allB ep (yss.take i)).length + (recB ep (yss.getD i [])).length ∧ endsL ep (yss.take (i + 1)) = endsL ep (yss.take i) ++ [(allB ep (yss.take (i + 1))).length] ∧ (allB ep (yss.take (i + 1))).length ≤ 1048576) := fun i hi => by
    refine ⟨allB_step ep yss i (by omega), ?_, ?_⟩
    · have e : yss.take (i + 1) = yss.take i ++ [yss.getD i []] := by
        rw [List.take_add_one, List.getD_eq_getElem?_getD, List.getElem?_eq_getElem (by omega : i < yss.length)]; rfl
      rw [e, endsL_snoc]
    · have e : allB ep yss = allB ep (yss.take (i + 1)) ++ allB ep (yss.drop (i + 1)) := by rw [← allB_append, List.take_append_drop]
      rw [e, List.length_append] at hlim
      omega
  have HF : Hid (∀ W i a c, i < n → BytesIn W a (yss.getD i []) → Calls Tryz.prog 61 #[.int .u64 ep, .slice a (yss.getD i []).length c] W fun e w' => ∃ a' c', e = .returned (.tuple #[.slice a' (recB ep (yss.getD i [])).length c', .int .i64 0]) ∧ Below W.heap.size W w') := fun W i a c hi hb => by
    have hp : OkP (yss.getD i []) := hok _ (by rw [List.getD_eq_getElem?_getD, List.getElem?_eq_getElem (by omega)]; exact List.getElem_mem (by omega))
    have hne : a ≠ none := fun e => by
      obtain ⟨b, o, e1, _⟩ := hb 0 (List.length_pos_iff.2 hp.1)
      rw [e] at e1; cases e1
    have e : frm ep (yss.getD i []) = (recB ep (yss.getD i []), 0) := by
      have hr : refu (yss.getD i []).length = 0 := by
        rw [refu_nat, if_neg (by have := List.length_pos_iff.2 hp.1; omega), if_neg (by have := hp.2.1; omega)]
      exact if_pos hr
    have q := rframe_ ep a (yss.getD i []) c W hb hp.2.2 (fun q => absurd q hne) he (by have := hp.2.1; omega)
    rw [e] at q
    exact q.mono fun _ _ ⟨a', c', q1, _, q3⟩ => ⟨a', c', q1, q3⟩
  have HLn : Hid (∀ i, (endsL ep (yss.take i)).length ≤ 10000000) := fun i => by rw [endsL_length, List.length_take]; omega
  clear h hok hlim
  go_enter Tryz.func32, Tryz.ntmps32
  go_wp2_with fail
  go_loopw [5, 6, 7] (fun ov nv iv wr => ∃ (i : Nat) (ov0 : Value), ov0 = ov ∧ iv = .int .i64 i ∧ nv = .int .i64 ((allB ep (yss.take i)).length : Nat) ∧ i ≤ n ∧ Hid (OwnI wr w.heap.size ov0 (endsL ep (yss.take i))) ∧ Hid (Below w.heap.size w wr)) (fun _ _ iv _ => n - (intOf iv).toNat)
  case atStart => exact ⟨0, _, rfl, rfl, rfl, Nat.zero_le _, ownI_nil _ _, Below.refl _ _⟩
  case round =>
    obtain ⟨i, ov0, rfl, rfl, rfl, hin, HO1, HB1⟩ := hrel
    by_cases hlt : i < n
    · have hlt2 : (i : Int) < (n : Int) := by omega
      have hi0 : (0 : Int) ≤ (i : Int) := by omega
      obtain ⟨b, o, rfl, a1, c1, hc1, hby1⟩ := (HI.out.on HB1.out) i (by omega)
      obtain ⟨s1, s2, s3⟩ := HSt.out i hlt
      obtain ⟨oa, oc, hov, _⟩ := HO1.out.shape
      have HFi := Lib.hid (HF.out _ i a1 c1 hlt hby1)
      have HLi := HLn.out i
      have HS1 := Lib.hid s1
      have HS2 := Lib.hid s2
      subst hov
      rw [s1] at s3
      clear s1 s2 hby1
      generalize (recB ep (yss.getD i [])).length = rl at *
      generalize (yss.getD i []).length = yl at *
      generalize (allB ep (yss.take i)).length = en at *
      generalize hel : (endsL ep (yss.take i)).length = el at *
      have hw1 := wraps_i64 ((en : Int) + (rl : Int)) (by omega) (by omega)
      go_wp2_with (first
        | (go_at_call 61; refine HFi.out.mono ?_; rintro e w2 ⟨a2, c2, rfl, hb2⟩
           have HB2 := Lib.hid (below_step HB1.out hb2)
           have HO2 := Lib.hid (HO1.out.on hb2)
           have HO3 := Lib.hid (HO2.out.on (below_alloc w2 (.cells #[.int .i64 ((en : Int) + (rl : Int))] 3)))
           have HB3 := Lib.hid (below_step HB2.out (below_alloc w2 (.cells #[.int .i64 ((en : Int) + (rl : Int))] 3)))
           clear hb2)
        | (at_builtin; refine wpList_append_int _ rfl _ _ rfl w.heap.size _ _ (en + rl) rfl HO3.out w2.heap.size rfl (cell_of (World.alloc_heap_new' _ _) (by simp)) (by rw [hel]; exact HLi) HB3.out.size ?_
           intro v4 w4 hown hgrow
           have HW4 := Lib.hid (below_growI HB3.out HO3.out hgrow)
           have HO4 := Lib.hid hown
           clear hown hgrow)
        | fail)
      go_roundw
      case rel => exact ⟨i + 1, _, rfl, by go_num, by rw [HS1.out]; go_num, by omega, by rw [HS2.out, HS1.out]; exact HO4.out, HW4⟩
      case measure => simp [intOf]; omega
    · have hlt2 : ¬ (i : Int) < (n : Int) := by omega
      obtain rfl : i = n := by omega
      have HFn : Hid (OwnI wr w.heap.size ov0 (endsL ep yss)) := by
        have q := HO1.out
        rw [List.take_of_length_le (by omega)] at q
        exact q
      go_wp2_with fail
      go_ret
      exact ⟨_, rfl, HFn.out, HB1.out⟩
end Go.Proofs.YtjnhcanohefjiaaGreatDoor
