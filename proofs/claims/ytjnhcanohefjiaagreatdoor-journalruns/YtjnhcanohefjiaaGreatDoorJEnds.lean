/- journal.endsOf: where the records of payloads end. -/
import Derived.Test.YtjnhcanohefjiaaGreatDoorJRead
namespace Go.Proofs.YtjnhcanohefjiaaGreatDoor
open Go.RowKit Go.Sort Go.Maps

theorem set_next (es : List Nat) (n i : Nat) (hl : es.length = n) (hi : i < n) : (valsI (es.take i ++ List.replicate (n - i) 0)).set i (.int .i64 (es.getD i 0 : Nat)) = valsI (es.take (i + 1) ++ List.replicate (n - (i + 1)) 0) := by
  apply List.ext_getElem?
  intro j
  have hget : es.getD i 0 = es[i]'(by omega) := by rw [List.getD_eq_getElem?_getD, List.getElem?_eq_getElem (by omega)]; rfl
  rw [List.getElem?_set]
  have hlen : (valsI (es.take i ++ List.replicate (n - i) 0)).length = n := by simp [valsI]; omega
  by_cases hj : i = j
  · subst hj
    rw [if_pos rfl, if_pos (by omega)]
    unfold valsI
    rw [List.getElem?_map, List.getElem?_append_left (by simp; omega), List.getElem?_take, if_pos (by omega), List.getElem?_eq_getElem (by omega), hget]
    rfl
  · rw [if_neg hj]
    unfold valsI
    rw [List.getElem?_map, List.getElem?_map]
    congr 1
    by_cases hlt : j < i
    · rw [List.getElem?_append_left (by simp; omega), List.getElem?_append_left (by simp; omega), List.getElem?_take, List.getElem?_take, if_pos hlt, if_pos (by omega)]
    · rw [List.getElem?_append_right (by simp; omega), List.getElem?_append_right (by simp; omega), List.getElem?_replicate, List.getElem?_replicate]
      simp only [List.length_take]
      by_cases hn : j < n
      · rw [if_pos (by omega), if_pos (by omega)]
      · rw [if_neg (by omega), if_neg (by omega)]
theorem allB_step (ep : Nat) (yss : List (List Nat)) (i : Nat) (hi : i < yss.length) : (allB ep (yss.take (i + 1))).length = (allB ep (yss.take i)).length + (recB ep (yss.getD i [])).length := by
  have e : yss.take (i + 1) = yss.take i ++ [yss.getD i []] := by
    rw [List.take_add_one, List.getElem?_eq_getElem hi, List.getD_eq_getElem?_getD, List.getElem?_eq_getElem hi]; rfl
  rw [e, allB_append, allB_one, List.length_append]
theorem lenR_ok (ep : Nat) (p : List Nat) (h : OkP p) : lenR ep p.length = ((recB ep p).length, 0) := by
  have h0 : p.length ≠ 0 := fun e => h.1 (List.eq_nil_of_length_eq_zero e)
  have hr : refu p.length = 0 := refu_ok (by omega) (by have := h.2.1; omega)
  unfold lenR
  rw [if_pos hr, recB_length]
  rfl
theorem made_ints {w : World} {base g n : Nat} (es : List Nat) (h : w.ownsRow base 3 1 (.slice (some ⟨g, 0, none⟩) n n) n (madeCells (Value.int .i64 0).cells (n * 1)).toList) : w.ownsRow base 3 1 (.slice (some ⟨g, 0, none⟩) n n) n (valsI (es.take 0 ++ List.replicate (n - 0) 0)) := by
  have e : (madeCells (Value.int .i64 0).cells (n * 1)).toList = valsI (es.take 0 ++ List.replicate (n - 0) 0) := by
    rw [show (Value.int IntKind.i64 0).cells = #[.int .i64 0] from rfl, toList_madeCells_one]
    simp [valsI]
  rw [← e]
  exact h
set_option maxRecDepth 100000 in
set_option maxHeartbeats 2000000 in
theorem endsOf_ (ep : Nat) (la : Option Addr) (yss : List (List Nat)) (n c : Nat) (w : World) (h : ListIn w la yss) (hn : yss.length = n) (hok : ∀ p ∈ yss, OkP p) (he : ep < 18446744073709551616) (hlim : (allB ep yss).length ≤ 1048576) (hcnt : n ≤ 1048576) :
    Calls Tryz.prog 27 #[.int .u64 ep, .slice la n c] w fun e w' => ∃ v, e = .returned v ∧ OwnI w' w.heap.size v (endsL ep yss) ∧ Below w.heap.size w w' := by
  obtain ⟨i0, hi, hz0, hz1, hz2⟩ := info_parts infoI
  have HI := Lib.hid h
  have HLe : Hid ((endsL ep yss).length = n) := by rw [endsL_length]; exact hn
  have HSt : Hid (∀ i, i < n → (allB ep (yss.take (i + 1))).length = (allB ep (yss.take i)).length + (recB ep (yss.getD i [])).length ∧ (endsL ep yss).getD i 0 = (allB ep (yss.take (i + 1))).length ∧ (allB ep (yss.take (i + 1))).length ≤ 1048576) := fun i hi => by
    refine ⟨allB_step ep yss i (by omega), endsL_get ep yss i (by omega), ?_⟩
    have e : allB ep yss = allB ep (yss.take (i + 1)) ++ allB ep (yss.drop (i + 1)) := by rw [← allB_append, List.take_append_drop]
    rw [e, List.length_append] at hlim
    omega
  have HL : Hid (∀ W i, i < n → Calls Tryz.prog 22 #[.int .u64 ep, .int .i64 ((yss.getD i []).length : Nat)] W fun e w' => e = .returned (.tuple #[.int .i64 ((recB ep (yss.getD i [])).length : Nat), .nilIface]) ∧ w' = W) := fun W i hi => by
    have hp : OkP (yss.getD i []) := hok _ (by rw [List.getD_eq_getElem?_getD, List.getElem?_eq_getElem (by omega)]; exact List.getElem_mem (by omega))
    have q := rlen_ ep ((yss.getD i []).length : Nat) W he (by omega) (by have := hp.2.1; omega)
    rw [lenR_ok ep _ hp] at q
    exact q
  have HSe : Hid (∀ i, i < n → (valsI ((endsL ep yss).take i ++ List.replicate (n - i) 0)).set i (.int .i64 ((endsL ep yss).getD i 0 : Nat)) = valsI ((endsL ep yss).take (i + 1) ++ List.replicate (n - (i + 1)) 0)) := fun i hi => set_next _ n i HLe.out hi
  clear h hok hlim
  go_enter Tryz.func27, Tryz.ntmps27
  go_wp2_with (first
    | (at_make; refine wpList_make_full _ rfl _ _ _ rfl w.heap.size 3 i0 _ 1 Tryz.underlying41 hi hz0 hz1 .i64 .i64 _ _ n rfl rfl rfl rfl (by rw [hz2]; omega) (by unfold maxLen; omega) (Nat.le_refl _) ?_
       intro w1 hown hgrow
       have HB := Lib.hid ((Below.refl w.heap.size w).grown hgrow (Nat.le_refl _) (fun k hk => by cases hk))
       have HO := Lib.hid (made_ints (endsL ep yss) hown)
       clear hown hgrow)
    | fail)
  go_loopw [6, 16] (fun ev iv wr => ∃ i : Nat, iv = .int .i64 i ∧ ev = .int .i64 ((allB ep (yss.take i)).length : Nat) ∧ i ≤ n ∧ Hid (wr.ownsRow w.heap.size 3 1 (.slice (some ⟨w.heap.size, 0, none⟩) n n) n (valsI ((endsL ep yss).take i ++ List.replicate (n - i) 0))) ∧ Hid (Below w.heap.size w wr)) (fun _ iv _ => n - (intOf iv).toNat)
  case atStart => exact ⟨0, rfl, rfl, Nat.zero_le _, HO, HB⟩
  case round =>
    obtain ⟨i, rfl, rfl, hin, HO1, HB1⟩ := hrel
    clear HO HB
    by_cases hlt : i < n
    · have hlt2 : (i : Int) < (n : Int) := by omega
      have hi0 : (0 : Int) ≤ (i : Int) := by omega
      obtain ⟨b, o, rfl, a1, c1, hc1, _⟩ := (HI.out.on HB1.out) i (by omega)
      obtain ⟨s1, s2, s3⟩ := HSt.out i hlt
      have HLi := Lib.hid (fun W => HL.out W i hlt)
      have HSi := Lib.hid (HSe.out i hlt)
      rw [s2] at HSi
      obtain ⟨hO2, hG2⟩ := HO1.out.stored i (.int .i64 ((allB ep (yss.take (i + 1))).length : Nat))
      rw [HSi.out] at hO2
      have HO2 := Lib.hid hO2
      have HB2 := Lib.hid (HB1.out.grown hG2 HB1.out.size (fun k hk => by cases hk; exact Nat.le_refl _))
      have hcl : wr.cell? ⟨w.heap.size, i, none⟩ = some (.int .i64 (((endsL ep yss).take i ++ List.replicate (n - i) 0).getD i 0 : Nat)) := by
        rw [HO1.out.cellAt i (by omega)]
        have hl3 : i < ((endsL ep yss).take i ++ List.replicate (n - i) 0).length := by rw [List.length_append, List.length_take, HLe.out, List.length_replicate]; omega
        simp only [valsI, List.getElem?_map, List.getElem?_eq_getElem hl3, List.getD_eq_getElem?_getD]; rfl
      have hfz := HO1.out.frozenAt i
      clear hO2 hG2 HSi s2
      generalize ((endsL ep yss).take i ++ List.replicate (n - i) 0).getD i 0 = old at *
      generalize (recB ep (yss.getD i [])).length = rl at *
      generalize (yss.getD i []).length = yl at *
      rw [s1] at HO2 HB2 s3
      have HS1 := Lib.hid s1
      clear s1
      generalize (allB ep (yss.take i)).length = en at *
      have hw1 := wraps_i64 ((en : Int) + (rl : Int)) (by omega) (by omega)
      go_wp2_with (first
        | (go_at_call 22; refine (HLi.out _).mono ?_; rintro e w2 ⟨rfl, rfl⟩)
        | fail)
      go_roundw
      case rel => exact ⟨i + 1, by go_num, by rw [HS1.out]; go_num, by omega, HO2, HB2⟩
      case measure => simp [intOf]; omega
    · have hlt2 : ¬ (i : Int) < (n : Int) := by omega
      obtain rfl : i = n := by omega
      have HF : Hid (OwnI wr w.heap.size (.slice (some ⟨w.heap.size, 0, none⟩) i i) (endsL ep yss)) := by
        have q := HO1.out
        rw [Nat.sub_self, List.replicate_zero, List.append_nil, List.take_of_length_le (by rw [HLe.out]; exact Nat.le_refl _)] at q
        unfold OwnI
        rw [HLe.out]
        exact q
      go_wp2_with fail
      go_ret
      exact ⟨_, rfl, HF.out, HB1.out⟩
end Go.Proofs.YtjnhcanohefjiaaGreatDoor
