/- The walk of the law RecordRows. -/
import Derived.Test.YtbplklfkkmhijaaRcRows
import Derived.Test.YtbplklfkkmhijaaRcTexts
namespace Go.Proofs.Ytbplklfkkmhijaa
open Go.RowKit Go.Sort Go.Maps

theorem wraps_i64 (n : Int) (h0 : -9223372036854775808 ≤ n) (h1 : n < 9223372036854775808) : IntKind.i64.wrap n = n := by rw [IntKind.wrap_i64]; omega
theorem allB_len (ep : Nat) (he : ep < 18446744073709551616) : ∀ pss : List (List Nat), (∀ p ∈ pss, OkP p) → (allB ep pss).length ≤ pss.length * 1048600
  | [], _ => Nat.zero_le _
  | p :: pss, h => by
    have ih := allB_len ep he pss (fun q hq => h q (List.mem_cons_of_mem _ hq))
    have hp := (h p (List.mem_cons_self ..)).2.1
    have h1 := enc_le10 p.length (by omega)
    have h2 := enc_le10 ep he
    rw [allB_cons, List.length_append, recB_length, List.length_cons]
    omega
/-- What the first loop has built: the bytes, the ends and the payloads of those that could be framed. -/
structure RowI (w : World) (ep : Nat) (f : Nat → TxV) (n i : Nat) (js : List Nat) (av ev wv : Value) (wr : World) : Prop where
  bw : Below w.heap.size w wr
  ok : ∀ j ∈ js, j < n ∧ OkP (f j).xs
  len : js.length ≤ i
  all : Own wr w.heap.size av (allB ep (js.map fun j => (f j).xs))
  ends : OwnI wr w.heap.size ev (endsL ep (js.map fun j => (f j).xs))
  want : OwnR wr w.heap.size wv (js.map fun j => .slice (f j).a (f j).xs.length (f j).c)
set_option maxRecDepth 100000 in
set_option maxHeartbeats 8000000 in
theorem rows_law (ep : Nat) (a : Option Addr) (n c : Nat) (f : Nat → TxV) (cut : Int) (w : World) (hin : TxsAt w a n f) (hlims : ∀ i, i < n → (f i).xs.length ≤ 140737488351232) (he : ep < 18446744073709551616) :
    Calls Try.prog 3 #[.int .u64 ep, .slice a n c, .int .i64 cut] w fun e w' => e = .returned (.bool true) ∧ Below w.heap.size w w' := by
  have HT : Hid (∀ i W, i < n → Below w.heap.size w W → Calls Try.prog 5 #[.slice (f i).a (f i).xs.length (f i).c] W (Made W (f i).xs)) := Lib.hid fun i W hi hW => by
    obtain ⟨_, _, _, _, h2, _, h4, _⟩ := hin i hi
    exact twin_ _ _ _ W (h2.on hW) h4 (by have := hlims i hi; omega)
  have HF : Hid (∀ i W a' c', i < n → BytesIn W a' (f i).xs → (a' = none → c' = 0) → Calls Try.prog 4 #[.int .u64 ep, .slice a' (f i).xs.length c'] W (Opened W (frm ep (f i).xs).1 (frm ep (f i).xs).2)) := Lib.hid fun i W a' c' hi h1 h2 => by
    obtain ⟨_, _, _, _, _, h3, _⟩ := hin i hi
    exact frame_ ep a' _ c' W h1 h3 h2 he (by have := hlims i hi; omega)
  have HTA : Hid (∀ W aa xs l ca, BytesIn W aa xs → (aa = none → ca = 0) → xs.length = l → l ≤ 33554000 → Calls Try.prog 5 #[.slice aa l ca] W (Made W xs)) := Lib.hid fun W aa xs l ca h1 h2 h3 h4 => by
    subst h3
    exact twin_ aa xs ca W h1 h2 (by omega)
  have HSU : Hid (∀ W, Calls Try.prog 8 #[] W fun e w' => e = .returned (.bool true) ∧ Below W.heap.size W w') := sure_
  have HIN := Lib.hid hin
  clear hin hlims
  go_enter Try.func3, Try.ntmps3
  go_wp2_with fail
  go_loopw [7, 8, 9, 10] (fun av0 ev0 wv0 iv wr => ∃ (i : Nat) (js : List Nat) (av ev wv : Value), iv = .int .i64 i ∧ av = av0 ∧ ev = ev0 ∧ wv = wv0 ∧ i ≤ n ∧ i ≤ 20 ∧ Hid (RowI w ep f n i js av ev wv wr)) (fun _ _ _ iv _ => (20 - intOf iv).toNat)
  case atStart => exact ⟨0, [], _, _, _, rfl, rfl, rfl, rfl, Nat.zero_le _, by omega, Lib.hid ⟨Below.refl _ _, fun j hj => by simp at hj, Nat.le_refl _, own_nil _ _, ownI_nil _ _, ownR_nil _ _⟩⟩
  case round =>
    obtain ⟨i, js, av, ev, wv, rfl, rfl, rfl, rfl, hi, hi20, hI⟩ := hrel
    by_cases hend : i < n ∧ i < 20
    · obtain ⟨hin1, hin2⟩ := hend
      have hd1 : decide (i < n) = true := decide_eq_true hin1
      have hd2 : decide ((i : Int) < 20) = true := decide_eq_true (by omega)
      obtain ⟨lb, lo, rfl, hcell, hbytes, hbyte, hnil, hcap⟩ := HIN.out i hin1
      have HC : Hid (∀ W, Below w.heap.size w W → W.cell? ⟨lb, lo + i, none⟩ = some (.slice (f i).a (f i).xs.length (f i).c)) := Lib.hid fun W hW => (hW.cell (block_lt_of_cell hcell)).trans hcell
      have HBy := Lib.hid hbyte
      have HTi := Lib.hid (HT.out i wr hin1 hI.out.bw)
      have HFi : Hid (∀ W a' c', BytesIn W a' (f i).xs → (a' = none → c' = 0) → Calls Try.prog 4 #[.int .u64 ep, .slice a' (f i).xs.length c'] W (Opened W (frm ep (f i).xs).1 (frm ep (f i).xs).2)) := Lib.hid fun W a' c' => HF.out i W a' c' hin1
      have hc0 := HC.out wr hI.out.bw
      have hi0 : (0 : Int) ≤ (i : Int) := by omega
      have hi1 : (i : Int) < (n : Int) := by omega
      have hfv : ∃ fa fl fc, (f i).a = fa ∧ (f i).xs.length = fl ∧ (f i).c = fc := ⟨_, _, _, rfl, rfl, rfl⟩
      obtain ⟨fa, fl, fc, hfa, hfl, hfc⟩ := hfv
      rw [hfa, hfl, hfc] at hc0 HC HTi
      rw [hfl] at HFi
      have HFA := Lib.hid hfa
      have HFL := Lib.hid hfl
      have HFC := Lib.hid hfc
      clear hcell hbytes hbyte hnil hcap hfa hfl hfc
      by_cases hr : refu (f i).xs.length = 0
      · have hb := refu_zero hr
        have ef : frm ep (f i).xs = (recB ep (f i).xs, 0) := if_pos hr
        rw [ef] at HFi
        rw [HFL.out] at hb
        replace HFi : Hid (∀ W a' c', BytesIn W a' (f i).xs → (a' = none → c' = 0) → Calls Try.prog 4 #[.int .u64 ep, .slice a' fl c'] W fun e w' => ∃ a c, e = .returned (.tuple #[.slice a (recB ep (f i).xs).length c, .nilIface]) ∧ BytesIn w' a (recB ep (f i).xs) ∧ (a = none → c = 0) ∧ Below W.heap.size W w') := Lib.hid fun W a' c' h1 h2 => (HFi.out W a' c' h1 h2).mono fun e w' ⟨a, c, q1, _, q2, q3, q4⟩ => ⟨a, c, q1, q2, q3, q4⟩
        have HOK : Hid (OkP (f i).xs) := Lib.hid ⟨fun q => by have := HFL.out; rw [q] at this; simp at this; omega, by rw [HFL.out]; omega, HBy.out⟩
        have HRL : Hid ((recB ep (f i).xs).length ≤ 1048600) := Lib.hid (by
          have h1 := enc_le10 fl (by omega)
          have h2 := enc_le10 ep he
          rw [recB_length, HFL.out]
          omega)
        have HAL : Hid ((allB ep (js.map fun j => (f j).xs)).length ≤ 20 * 1048600) := Lib.hid (by
          have h1 := allB_len ep he (js.map fun j => (f j).xs) (fun p hp => by
            obtain ⟨j, hj, rfl⟩ := List.mem_map.1 hp
            exact (hI.out.ok j hj).2)
          rw [List.length_map] at h1
          exact Nat.le_trans h1 (Nat.mul_le_mul_right _ (Nat.le_trans hI.out.len hi20)))
        obtain ⟨rl, hrl⟩ : ∃ rl, (recB ep (f i).xs).length = rl := ⟨_, rfl⟩
        rw [hrl] at HFi HRL
        have HRE := Lib.hid hrl
        clear ef hr hrl
        go_wp2_with fail
        refine HTi.out.mono ?_
        rintro e w1 ⟨a1, c1, rfl, _, hI1, hN1, hb1⟩
        have HI1 := Lib.hid hI1
        have HN1 := Lib.hid hN1
        have HB1 := Lib.hid hb1
        rw [HFL.out]
        clear hI1 hN1 hb1
        go_wp2_with fail
        refine (HFi.out w1 _ _ HI1.out HN1.out).mono ?_
        rintro e w2 ⟨a2, c2, rfl, hi2, hn2, hb2⟩
        have HI2 := Lib.hid hi2
        have HN2 := Lib.hid hn2
        have HB2 := Lib.hid (below_step HB1.out hb2)
        have HW2 := Lib.hid (below_step hI.out.bw HB2.out)
        have HA2 : Hid (Own w2 w.heap.size av (allB ep (js.map fun j => (f j).xs))) := Lib.hid (hI.out.all.on HB2.out)
        have HE2 : Hid (OwnI w2 w.heap.size ev (endsL ep (js.map fun j => (f j).xs))) := Lib.hid (hI.out.ends.on HB2.out)
        have HR2 : Hid (OwnR w2 w.heap.size wv (js.map fun j => .slice (f j).a (f j).xs.length (f j).c)) := Lib.hid (hI.out.want.on HB2.out)
        have hs2 := HW2.out.size
        clear hi2 hn2 hb2 HTi HFi
        go_wp2_with (first
          | (at_builtin; refine wpList_append_bytes _ rfl _ _ rfl w.heap.size _ _ _ rfl HA2.out a2 rl c2 rfl HRE.out HN2.out HI2.out (by rw [HRE.out]; have := HAL.out; have := HRL.out; omega) hs2 ?_
             intro v3 w3 hown hgrow
             have HW3 := Lib.hid (below_grow HW2.out HA2.out hgrow)
             have HE3 : Hid (OwnI w3 w.heap.size ev (endsL ep (js.map fun j => (f j).xs))) := Lib.hid (ownsRow_beside HE2.out HA2.out (by decide) hgrow)
             have HR3 : Hid (OwnR w3 w.heap.size wv (js.map fun j => .slice (f j).a (f j).xs.length (f j).c)) := Lib.hid (ownsRow_beside HR2.out HA2.out (by decide) hgrow)
             have HA3 : Hid (Own w3 w.heap.size v3 (allB ep ((js ++ [i]).map fun j => (f j).xs))) := Lib.hid (by
               rw [List.map_append, allB_append, List.map_singleton, allB_one]; exact hown)
             obtain ⟨a3, c3, rfl, _, _⟩ := HA3.out.bytes
             obtain ⟨al, hal⟩ : ∃ al, (allB ep ((js ++ [i]).map fun j => (f j).xs)).length = al := ⟨_, rfl⟩
             have HAl := Lib.hid hal
             rw [hal] at HA3 ⊢
             have hs3 := HW3.out.size
             have HW3a : Hid (Below w.heap.size w (w3.alloc (.cells #[.int .i64 (al : Int)] 3))) := Lib.hid (HW3.out.alloc hs3 _)
             have HE3a : Hid (OwnI (w3.alloc (.cells #[.int .i64 (al : Int)] 3)) w.heap.size ev (endsL ep (js.map fun j => (f j).xs))) := Lib.hid (HE3.out.on (below_alloc _ _))
             have HR3a : Hid (OwnR (w3.alloc (.cells #[.int .i64 (al : Int)] 3)) w.heap.size wv (js.map fun j => .slice (f j).a (f j).xs.length (f j).c)) := Lib.hid (HR3.out.on (below_alloc _ _))
             have HA3a : Hid (Own (w3.alloc (.cells #[.int .i64 (al : Int)] 3)) w.heap.size (.slice a3 al c3) (allB ep ((js ++ [i]).map fun j => (f j).xs))) := Lib.hid (HA3.out.on (below_alloc _ _))
             clear hown hgrow hal)
          | (at_builtin; refine wpList_append_int _ rfl _ _ rfl w.heap.size _ _ al rfl HE3a.out w3.heap.size rfl (cell_of (World.alloc_heap_new' _ _) rfl) (by rw [endsL_length, List.length_map]; have := hI.out.len; omega) HW3a.out.size ?_
             intro v4 w4 hown hgrow
             have HW4 := Lib.hid (below_growI HW3a.out HE3a.out hgrow)
             have HA4 : Hid (Own w4 w.heap.size (.slice a3 al c3) (allB ep ((js ++ [i]).map fun j => (f j).xs))) := Lib.hid (ownsRow_beside HA3a.out HE3a.out (by decide) hgrow)
             have HR4 : Hid (OwnR w4 w.heap.size wv (js.map fun j => .slice (f j).a (f j).xs.length (f j).c)) := Lib.hid (ownsRow_beside HR3a.out HE3a.out (by decide) hgrow)
             have HE4 : Hid (OwnI w4 w.heap.size v4 (endsL ep ((js ++ [i]).map fun j => (f j).xs))) := Lib.hid (by
               have h1 := HAl.out
               rw [List.map_append, List.map_singleton] at h1
               rw [List.map_append, List.map_singleton, endsL_snoc, h1]; exact hown)
             have hc4 := HC.out w4 HW4.out
             have hs4 := HW4.out.size
             have HW4a : Hid (Below w.heap.size w (w4.alloc (.cells #[.slice fa fl fc] 24))) := Lib.hid (HW4.out.alloc hs4 _)
             have HA4a : Hid (Own (w4.alloc (.cells #[.slice fa fl fc] 24)) w.heap.size (.slice a3 al c3) (allB ep ((js ++ [i]).map fun j => (f j).xs))) := Lib.hid (HA4.out.on (below_alloc _ _))
             have HE4a : Hid (OwnI (w4.alloc (.cells #[.slice fa fl fc] 24)) w.heap.size v4 (endsL ep ((js ++ [i]).map fun j => (f j).xs))) := Lib.hid (HE4.out.on (below_alloc _ _))
             have HR4a : Hid (OwnR (w4.alloc (.cells #[.slice fa fl fc] 24)) w.heap.size wv (js.map fun j => .slice (f j).a (f j).xs.length (f j).c)) := Lib.hid (HR4.out.on (below_alloc _ _))
             clear hown hgrow)
          | (at_builtin; refine wpList_append_row _ rfl _ _ rfl w.heap.size _ _ (.slice fa fl fc) rfl HR4a.out w4.heap.size rfl (cell_of (World.alloc_heap_new' _ _) rfl) rfl (by rw [List.length_map]; have := hI.out.len; omega) HW4a.out.size ?_
             intro v5 w5 hown hgrow
             have HW5 := Lib.hid (below_growR HW4a.out HR4a.out hgrow)
             have HA5 : Hid (Own w5 w.heap.size (.slice a3 al c3) (allB ep ((js ++ [i]).map fun j => (f j).xs))) := Lib.hid (ownsRow_beside HA4a.out HR4a.out (by decide) hgrow)
             have HE5 : Hid (OwnI w5 w.heap.size v4 (endsL ep ((js ++ [i]).map fun j => (f j).xs))) := Lib.hid (ownsRow_beside HE4a.out HR4a.out (by decide) hgrow)
             have HR5 : Hid (OwnR w5 w.heap.size v5 ((js ++ [i]).map fun j => .slice (f j).a (f j).xs.length (f j).c)) := Lib.hid (by
               rw [List.map_append, List.map_singleton, HFA.out, HFL.out, HFC.out]; exact hown)
             clear hown hgrow)
          | fail)
        go_roundw
        case rel => exact ⟨i + 1, js ++ [i], _, _, _, by go_num, rfl, rfl, rfl, by omega, by omega, Lib.hid ⟨HW5.out, fun j hj => by
          rcases List.mem_append.1 hj with q | q
          · exact hI.out.ok j q
          · rw [List.mem_singleton.1 q]; exact ⟨hin1, HOK.out⟩, by rw [List.length_append, List.length_singleton]; have := hI.out.len; omega, HA5.out, HE5.out, HR5.out⟩⟩
        case measure => simp [intOf]; omega
      · have ef : frm ep (f i).xs = ([], refu (f i).xs.length) := if_neg hr
        rw [ef] at HFi
        replace HFi : Hid (∀ W a' c', BytesIn W a' (f i).xs → (a' = none → c' = 0) → Calls Try.prog 4 #[.int .u64 ep, .slice a' fl c'] W fun e w' => ∃ a c, e = .returned (.tuple #[.slice a 0 c, .iface 41 (.int .i64 (refu (f i).xs.length))]) ∧ Below W.heap.size W w') := Lib.hid fun W a' c' h1 h2 => (HFi.out W a' c' h1 h2).mono fun e w' ⟨a, c, q1, _, _, _, q4⟩ => ⟨a, c, by rw [← errV_not hr]; exact q1, q4⟩
        have hcase : fl = 0 ∨ 1048576 < fl := by
          rw [HFL.out] at hr
          apply Classical.byContradiction
          intro q
          exact hr (refu_ok (by omega) (by omega))
        generalize refu (f i).xs.length = er at *
        clear ef
        rcases hcase with rfl | hbig
        · go_wp2_with fail
          refine HTi.out.mono ?_
          rintro e w1 ⟨a1, c1, rfl, _, hI1, hN1, hb1⟩
          have HI1 := Lib.hid hI1
          have HN1 := Lib.hid hN1
          have HB1 := Lib.hid hb1
          rw [HFL.out]
          clear hI1 hN1 hb1
          go_wp2_with fail
          refine (HFi.out w1 _ _ HI1.out HN1.out).mono ?_
          rintro e w2 ⟨a2, c2, rfl, hb2⟩
          have HB2 := Lib.hid (below_step HB1.out hb2)
          have HW2 := Lib.hid (below_step hI.out.bw HB2.out)
          have hc2 := HC.out w2 HW2.out
          clear hb2
          go_wp2_with fail
          go_roundw
          case rel => exact ⟨i + 1, js, _, _, _, by go_num, rfl, rfl, rfl, by omega, by omega, Lib.hid ⟨HW2.out, hI.out.ok, by have := hI.out.len; omega, hI.out.all.on HB2.out, hI.out.ends.on HB2.out, hI.out.want.on HB2.out⟩⟩
          case measure => simp [intOf]; omega
        · have hb1' : (fl : Int) > 0 := by omega
          have hb2' : ¬ (fl : Int) ≤ 1048576 := by omega
          go_wp2_with fail
          refine HTi.out.mono ?_
          rintro e w1 ⟨a1, c1, rfl, _, hI1, hN1, hb1⟩
          have HI1 := Lib.hid hI1
          have HN1 := Lib.hid hN1
          have HB1 := Lib.hid hb1
          rw [HFL.out]
          clear hI1 hN1 hb1
          go_wp2_with fail
          refine (HFi.out w1 _ _ HI1.out HN1.out).mono ?_
          rintro e w2 ⟨a2, c2, rfl, hb2⟩
          have HB2 := Lib.hid (below_step HB1.out hb2)
          have HW2 := Lib.hid (below_step hI.out.bw HB2.out)
          have hc2 := HC.out w2 HW2.out
          clear hb2
          go_wp2_with fail
          go_roundw
          case rel => exact ⟨i + 1, js, _, _, _, by go_num, rfl, rfl, rfl, by omega, by omega, Lib.hid ⟨HW2.out, hI.out.ok, by have := hI.out.len; omega, hI.out.all.on HB2.out, hI.out.ends.on HB2.out, hI.out.want.on HB2.out⟩⟩
          case measure => simp [intOf]; omega
    · obtain ⟨wo, rfl⟩ : ∃ wo, wo = wr := ⟨_, rfl⟩
      obtain ⟨pss, hpss⟩ : ∃ pss, js.map (fun j => (f j).xs) = pss := ⟨_, rfl⟩
      have HOK : Hid (∀ p ∈ pss, OkP p) := Lib.hid fun p hp => by
        rw [← hpss] at hp
        obtain ⟨j, hj, rfl⟩ := List.mem_map.1 hp
        exact (hI.out.ok j hj).2
      have hpl : pss.length = js.length := by rw [← hpss, List.length_map]
      obtain ⟨m, hm⟩ : ∃ m, pss.length = m := ⟨_, rfl⟩
      have hm20 : m ≤ 20 := by have := hI.out.len; omega
      have hlist := ownR_list (yss := pss) hI.out.want hI.out.bw (by rw [List.length_map, hpl]) (fun q hq => by
        have hqj : q < js.length := by omega
        have hj := hI.out.ok (js.getD q 0) (by rw [List.getD_eq_getElem?_getD, List.getElem?_eq_getElem hqj]; exact List.getElem_mem hqj)
        obtain ⟨_, _, _, _, h2, _⟩ := HIN.out _ hj.1
        refine ⟨(f (js.getD q 0)).a, (f (js.getD q 0)).c, ?_, ?_⟩
        · rw [← hpss]
          simp [List.getD_eq_getElem?_getD, List.getElem?_map, List.getElem?_eq_getElem hqj]
        · rw [← hpss]
          simp only [List.getD_eq_getElem?_getD, List.getElem?_map, List.getElem?_eq_getElem hqj] at h2 ⊢
          exact h2)
      obtain ⟨la, lc, rfl, hli, hlc⟩ := hlist
      have hall := hI.out.all
      have hends := hI.out.ends
      rw [hpss] at hall hends
      obtain ⟨aa, ca, rfl, hai, han⟩ := hall.bytes
      have hacap := own_cap hall
      obtain ⟨ae, ce, rfl, hec⟩ := hends.slice
      rw [endsL_length] at hec ⊢
      have hAl := allB_len ep he pss HOK.out
      obtain ⟨L, hL⟩ : ∃ L, (allB ep pss).length = L := ⟨_, rfl⟩
      rw [hL] at hacap hAl hall ⊢
      rw [hm] at hec hAl hlc ⊢
      have hL20 : L ≤ 20971 * 1000 + 1000 := Nat.le_trans (Nat.le_trans hAl (Nat.mul_le_mul_right _ hm20)) (by decide)
      obtain ⟨ct, hct⟩ : ∃ ct : Nat, (ct : Int) = cut % 18446744073709551616 % ((L : Int) + 1) := ⟨(cut % 18446744073709551616 % ((L : Int) + 1)).toNat, by
        rw [Int.toNat_of_nonneg (Int.emod_nonneg _ (by omega))]⟩
      have hctL : ct ≤ L := by
        have := Int.emod_lt_of_pos (cut % 18446744073709551616) (show (0 : Int) < (L : Int) + 1 by omega)
        omega
      have hsall : scan ep (allB ep pss ++ [0, 1, 2]) = (pss, L) := by
        rw [scan_all ep he [0, 1, 2] (by decide) (by rw [show one ep [0, 1, 2] = ([], 0, 8) from rfl]; decide) pss HOK.out, hL]
      have HSX : Hid (∀ W a' c', BytesIn W a' (allB ep pss ++ [0, 1, 2]) → (a' = none → c' = 0) → L + 3 ≤ c' → Calls Try.prog 6 #[.int .u64 ep, .slice a' (L + 3) c'] W fun e w' => ∃ lx cx, e = .returned (.tuple #[.slice lx m cx, .int .i64 L]) ∧ ListIn w' lx pss ∧ Below W.heap.size W w') := Lib.hid fun W a' c' h1 h2 h3 => by
        have := scan_ ep a' (allB ep pss ++ [0, 1, 2]) (L + 3) c' W h1 (fun x hx => by
          rcases List.mem_append.1 hx with q | q
          · exact allB_byte ep pss HOK.out x q
          · simp at q; omega) h2 (by rw [List.length_append, hL]; rfl) (by omega) h3
        rw [hsall] at this
        exact this.mono fun e w' ⟨lx, cx, q1, q2, _, _, q3⟩ => ⟨lx, cx, by rw [← hm]; exact q1, q2, q3⟩
      obtain ⟨qss, hqss⟩ : ∃ qss, (scan ep ((allB ep pss).take ct)).1 = qss := ⟨_, rfl⟩
      obtain ⟨qn, hqn⟩ : ∃ qn, (scan ep ((allB ep pss).take ct)).2 = qn := ⟨_, rfl⟩
      obtain ⟨ql, hql⟩ : ∃ ql, qss.length = ql := ⟨_, rfl⟩
      have HSY : Hid (∀ W, BytesIn W aa (allB ep pss) → Calls Try.prog 6 #[.int .u64 ep, .slice aa ct ca] W fun e w' => ∃ ly cy, e = .returned (.tuple #[.slice ly ql cy, .int .i64 qn]) ∧ ListIn w' ly qss ∧ Below W.heap.size W w') := Lib.hid fun W h1 => by
        have := scan_ ep aa ((allB ep pss).take ct) ct ca W (take_in h1 ct) (fun x hx => allB_byte ep pss HOK.out x (List.mem_of_mem_take hx)) han (by rw [List.length_take, hL]; omega) (by omega) (by omega)
        rw [hqss, hqn, hql] at this
        exact this.mono fun e w' ⟨ly, cy, q1, q2, _, _, q3⟩ => ⟨ly, cy, q1, q2, q3⟩
      have HSC : Hid (∀ k, k ≤ m → (allB ep (pss.take k)).length ≤ ct → (k = m ∨ k < m ∧ ct < (allB ep (pss.take (k + 1))).length) → (qss, qn) = (pss.take k, (allB ep (pss.take k)).length)) := Lib.hid fun k h1 h2 h3 => by
        have := scan_cut ep he pss HOK.out k ct (by omega) h2 (by
          rcases h3 with q | ⟨q1, q2⟩
          · exact .inl ⟨by omega, by omega⟩
          · exact .inr ⟨by omega, q2⟩)
        rw [← this, ← hqss, ← hqn]
      have HTW := Lib.hid (HTA.out wo aa (allB ep pss) L ca hai han hL (by omega))
      have HM := Lib.hid hm
      have HAI := Lib.hid hai
      have HLI := Lib.hid hli
      have HLC := Lib.hid hlc
      have HEC0 := Lib.hid hec
      have HQL := Lib.hid hql
      have HL := Lib.hid hL
      have HBO := Lib.hid hI.out.bw
      have hnlt : decide (i < n) = false ∨ (decide (i < n) = true ∧ decide ((i : Int) < 20) = false) := by
        by_cases q : i < n
        · exact .inr ⟨decide_eq_true q, decide_eq_false (by omega)⟩
        · exact .inl (decide_eq_false q)
      have hwc : IntKind.u64.wrap cut = cut % 18446744073709551616 := by rw [IntKind.wrap_u64]
      have hwL1 := wraps_i64 ((L : Int) + 1) (by omega) (by omega)
      have hwL2 := wraps_u64 ((L : Int) + 1) (by omega) (by omega)
      have htm : (cut % 18446744073709551616).tmod ((L : Int) + 1) = (ct : Int) := by rw [Int.tmod_eq_emod_of_nonneg (by omega), hct]
      have hwct := wraps_i64 (ct : Int) (by omega) (by omega)
      have hLne : ((L : Int) + 1 == 0) = false := beq_false_of_ne (by omega)
      have hLne2 : ¬ (L : Int) + 1 = 0 := by omega
      have hct0 : (0 : Int) ≤ (ct : Int) := by omega
      have hctc : (ct : Int) ≤ (ca : Int) := by omega
      clear hpss hpl hm hlc hli hall hends hai han hec hAl hL hct hsall hqss hqn hql hend hI HT HF HTA HIN
      generalize hAA : allB ep pss = A at *
      have HAA := Lib.hid hAA
      clear hAA
      have HB3 : ∀ W : World, BytesIn (W.alloc (.cells #[.int .u8 0, .int .u8 1, .int .u8 2] 5)) (some ⟨W.heap.size, 0, none⟩) [0, 1, 2] := fun W => bytes_new W [0, 1, 2] (0, 0)
      have H3B := Lib.hid HB3
      clear HB3
      rcases hnlt with hd1 | ⟨hd1, hd2⟩
      all_goals
        go_wp2_with fail
        refine HTW.out.mono ?_
        rintro e w1 ⟨a1, c1, rfl, hO1, hI1, hN1, hb1⟩
        have HO1 := Lib.hid hO1
        have HB1 := Lib.hid hb1
        have HAI1 := Lib.hid (HAI.out.on hb1)
        rw [HL.out] at HO1 ⊢
        have hs1 := hb1.size
        have HO1a : Hid (Own (w1.alloc (.cells #[.int .u8 0, .int .u8 1, .int .u8 2] 5)) wo.heap.size (.slice a1 L c1) A) := Lib.hid (HO1.out.on (below_alloc _ _))
        have HB1a : Hid (Below wo.heap.size wo (w1.alloc (.cells #[.int .u8 0, .int .u8 1, .int .u8 2] 5))) := Lib.hid (hb1.alloc hs1 _)
        have H3 := Lib.hid (H3B.out w1)
        clear hO1 hI1 hN1 hb1 HTW H3B
        go_wp2_with (first
          | (at_builtin; refine wpList_append_bytes _ rfl _ _ rfl wo.heap.size _ A [0, 1, 2] rfl HO1a.out _ 3 3 rfl rfl (fun hh => by cases hh) H3.out (by rw [HL.out]; simp; omega) HB1a.out.size ?_
             intro v2 w2 hown hgrow
             have HO2 := Lib.hid hown
             have HB2 := Lib.hid (below_grow HB1a.out HO1a.out hgrow)
             obtain ⟨a2, c2, rfl, hi2, hn2⟩ := HO2.out.bytes
             have hc2 := own_cap HO2.out
             have hl2 : (A ++ [0, 1, 2]).length = L + 3 := by rw [List.length_append, HL.out]; rfl
             rw [hl2] at hc2 ⊢
             have HI2 := Lib.hid hi2
             have HN2 := Lib.hid hn2
             have HC2 := Lib.hid hc2
             clear hown hgrow hi2 hn2 hc2 hl2)
          | fail)
        refine (HSX.out w2 _ _ HI2.out HN2.out HC2.out).mono ?_
        rintro e w3 ⟨lx, cx, rfl, hlx, hb3⟩
        have HLX := Lib.hid hlx
        have HB3 := Lib.hid (below_step HB2.out hb3)
        clear hlx hb3 HSX HI2 HN2 HC2 HO2 HB2 HB1a HO1a H3 HO1 HB1
        go_wp2_with fail
        refine (HSY.out w3 (HAI.out.on HB3.out)).mono ?_
        rintro e w4 ⟨ly, cy, rfl, hly, hb4⟩
        have HLY4 := Lib.hid hly
        have HLX4 := Lib.hid (HLX.out.on hb4)
        have HB4 := Lib.hid (below_step HBO.out (below_step HB3.out hb4))
        have HLI4 := Lib.hid (HLI.out.on (below_step HB3.out hb4))
        have HEC : Hid (∀ k, k < m → ∃ b o, ae = some ⟨b, o, none⟩ ∧ w4.cell? ⟨b, o + k, none⟩ = some (.int .i64 ((endsL ep pss).getD k 0 : Nat))) := Lib.hid fun k hk => by
          obtain ⟨b, o, e, hcl⟩ := HEC0.out k hk
          exact ⟨b, o, e, ((below_step HB3.out hb4).cell (block_lt_of_cell hcl)).trans hcl⟩
        clear hly hb4 HSY HLX HB3 HAI HAI1 HLI HEC0 HBO hwc hwL1 hwL2 htm hLne hLne2
        go_wp2_with fail
        go_loopw [18] (fun kv wq => ∃ k : Nat, kv = .int .i64 k ∧ k ≤ m ∧ wq = w4 ∧ Hid ((allB ep (pss.take k)).length ≤ ct)) (fun kv _ => ((m : Int) - intOf kv).toNat)
        case atStart => exact ⟨0, rfl, Nat.zero_le _, rfl, Lib.hid (by rw [List.take_zero, allB_nil]; exact Nat.zero_le _)⟩
        case round =>
          obtain ⟨k, rfl, hk, rfl, HKle⟩ := hrel
          by_cases hkm : k = m
          · have hkd : decide (k < m) = false := decide_eq_false (by omega)
            have HKge : Hid (k = m ∨ k < m ∧ ct < (allB ep (pss.take (k + 1))).length) := Lib.hid (.inl hkm)
            clear hkm
            by_cases hkz : 0 < k
            · have hq := HSC.out k hk HKle.out HKge.out
              simp only [Prod.mk.injEq] at hq
              obtain ⟨hq1, hq2⟩ := hq
              have hkl : (pss.take k).length = k := by rw [List.length_take, HM.out]; omega
              have HLq := Lib.hid (HLI4.out.take k)
              have hkc : (k : Int) ≤ (lc : Int) := by have := HLC.out; omega
              have hkc0 : (0 : Int) ≤ (k : Int) := by omega
              have HL1 : Hid (∀ W, Below wr.heap.size wr W → Calls Try.prog 7 #[.slice lx m cx, .slice la m lc] W fun e w' => e = .returned (.bool true) ∧ Below W.heap.size W w') := Lib.hid fun W hW => lists_ lx la pss m cx lc W HM.out (by omega) (HLX4.out.on hW) (HLI4.out.on hW)
              have HL2 : Hid (∀ W, Below wr.heap.size wr W → Calls Try.prog 7 #[.slice ly ql cy, .slice la k lc] W fun e w' => e = .returned (.bool true) ∧ Below W.heap.size W w') := Lib.hid fun W hW => by
                have hql : ql = k := by rw [← HQL.out, hq1, hkl]
                rw [hql]
                have hly := HLY4.out.on hW
                rw [hq1] at hly
                exact lists_ ly la (pss.take k) k cy lc W hkl (by omega) hly (HLq.out.on hW)
              have hk0 : (k : Int) > 0 := by omega
              obtain ⟨eb2, eo2, hae2, hce2⟩ := HEC.out (k - 1) (by omega)
              have hE2 : (endsL ep pss).getD (k - 1) 0 = qn := by rw [endsL_get ep pss (k - 1) (by rw [HM.out]; omega), hq2, show k - 1 + 1 = k by omega]
              rw [hE2] at hce2
              cases hae2
              have hwk : IntKind.i64.wrap ((k : Int) - 1) = (k : Int) - 1 := by rw [IntKind.wrap_i64]; omega
              have htk : ((k : Int) - 1).toNat = k - 1 := by omega
              have hkm' : (k : Int) - 1 < (m : Int) := by omega
              have hk00' : (0 : Int) ≤ (k : Int) - 1 := by omega
              clear hE2
              clear hq1 hq2 HLq hkl HSC HKle HKge HM HEC HQL HLX4 HLY4 HLI4 HLC
              go_wp2_with fail
              refine (HL1.out wr (Below.refl _ _)).mono ?_
              rintro e w5 ⟨rfl, hb5⟩
              have HB5 := Lib.hid hb5
              clear hb5
              go_wp2_with fail
              refine (HL2.out w5 HB5.out).mono ?_
              rintro e w6 ⟨rfl, hb6⟩
              have HB6 := Lib.hid (below_step HB5.out hb6)
              clear hb6
              go_wp2_with fail
              refine (HSU.out w6).mono ?_
              rintro e w7 ⟨rfl, hb7⟩
              have HB7 := Lib.hid (below_step HB4.out (below_step HB6.out hb7))
              clear hb7
              go_wp2_with fail
              go_ret
              exact ⟨rfl, HB7.out⟩
            · obtain rfl : k = 0 := by omega
              have hq := HSC.out 0 hk HKle.out HKge.out
              simp only [Prod.mk.injEq] at hq
              obtain ⟨hq1, hq2⟩ := hq
              have hkl : (pss.take 0).length = 0 := by rw [List.length_take, HM.out]; omega
              have HLq := Lib.hid (HLI4.out.take 0)
              have hkc : (0 : Int) ≤ (lc : Int) := by have := HLC.out; omega
              have hkc0 : (0 : Int) ≤ (0 : Int) := by omega
              have HL1 : Hid (∀ W, Below wr.heap.size wr W → Calls Try.prog 7 #[.slice lx m cx, .slice la m lc] W fun e w' => e = .returned (.bool true) ∧ Below W.heap.size W w') := Lib.hid fun W hW => lists_ lx la pss m cx lc W HM.out (by omega) (HLX4.out.on hW) (HLI4.out.on hW)
              have HL2 : Hid (∀ W, Below wr.heap.size wr W → Calls Try.prog 7 #[.slice ly ql cy, .slice la 0 lc] W fun e w' => e = .returned (.bool true) ∧ Below W.heap.size W w') := Lib.hid fun W hW => by
                have hql : ql = 0 := by rw [← HQL.out, hq1, hkl]
                rw [hql]
                have hly := HLY4.out.on hW
                rw [hq1] at hly
                exact lists_ ly la (pss.take 0) 0 cy lc W hkl (by omega) hly (HLq.out.on hW)
              have hqz : ((qn : Int) == 0) = true := by
                rw [hq2, List.take_zero, allB_nil]
                rfl
              clear hq1 hq2 HLq hkl HSC HKle HKge HM HEC HQL HLX4 HLY4 HLI4 HLC
              go_wp2_with fail
              refine (HL1.out wr (Below.refl _ _)).mono ?_
              rintro e w5 ⟨rfl, hb5⟩
              have HB5 := Lib.hid hb5
              clear hb5
              go_wp2_with fail
              refine (HL2.out w5 HB5.out).mono ?_
              rintro e w6 ⟨rfl, hb6⟩
              have HB6 := Lib.hid (below_step HB5.out hb6)
              clear hb6
              go_wp2_with fail
              refine (HSU.out w6).mono ?_
              rintro e w7 ⟨rfl, hb7⟩
              have HB7 := Lib.hid (below_step HB4.out (below_step HB6.out hb7))
              clear hb7
              go_wp2_with fail
              go_ret
              exact ⟨rfl, HB7.out⟩
          · have hkd : decide (k < m) = true := decide_eq_true (by omega)
            obtain ⟨eb, eo, hae, hce⟩ := HEC.out k (by omega)
            have hE : (endsL ep pss).getD k 0 = (allB ep (pss.take (k + 1))).length := endsL_get ep pss k (by rw [HM.out]; omega)
            rw [hE] at hce
            have HES : Hid (True) := Lib.hid trivial
            obtain ⟨x, hxE⟩ : ∃ x, (allB ep (pss.take (k + 1))).length = x := ⟨_, rfl⟩
            rw [hxE] at hce
            have hk00 : (0 : Int) ≤ (k : Int) := by omega
            have hkm1 : (k : Int) < (m : Int) := by omega
            by_cases hx : x ≤ ct
            · have hxd : decide (x ≤ ct) = true := decide_eq_true hx
              have HK1 : Hid ((allB ep (pss.take (k + 1))).length ≤ ct) := Lib.hid (by omega)
              subst hae
              clear hxE hE
              go_wp2_with fail
              go_roundw
              case rel => exact ⟨k + 1, by go_num, by omega, trivial, HK1⟩
              case measure => simp [intOf]; omega
            · have hxd : decide (x ≤ ct) = false := decide_eq_false hx
              have HKge : Hid (k = m ∨ k < m ∧ ct < (allB ep (pss.take (k + 1))).length) := Lib.hid (.inr ⟨by omega, by omega⟩)
              subst hae
              clear hxE hE hx
              by_cases hkz : 0 < k
              · have hq := HSC.out k hk HKle.out HKge.out
                simp only [Prod.mk.injEq] at hq
                obtain ⟨hq1, hq2⟩ := hq
                have hkl : (pss.take k).length = k := by rw [List.length_take, HM.out]; omega
                have HLq := Lib.hid (HLI4.out.take k)
                have hkc : (k : Int) ≤ (lc : Int) := by have := HLC.out; omega
                have hkc0 : (0 : Int) ≤ (k : Int) := by omega
                have HL1 : Hid (∀ W, Below wr.heap.size wr W → Calls Try.prog 7 #[.slice lx m cx, .slice la m lc] W fun e w' => e = .returned (.bool true) ∧ Below W.heap.size W w') := Lib.hid fun W hW => lists_ lx la pss m cx lc W HM.out (by omega) (HLX4.out.on hW) (HLI4.out.on hW)
                have HL2 : Hid (∀ W, Below wr.heap.size wr W → Calls Try.prog 7 #[.slice ly ql cy, .slice la k lc] W fun e w' => e = .returned (.bool true) ∧ Below W.heap.size W w') := Lib.hid fun W hW => by
                  have hql : ql = k := by rw [← HQL.out, hq1, hkl]
                  rw [hql]
                  have hly := HLY4.out.on hW
                  rw [hq1] at hly
                  exact lists_ ly la (pss.take k) k cy lc W hkl (by omega) hly (HLq.out.on hW)
                have hk0 : (k : Int) > 0 := by omega
                obtain ⟨eb2, eo2, hae2, hce2⟩ := HEC.out (k - 1) (by omega)
                have hE2 : (endsL ep pss).getD (k - 1) 0 = qn := by rw [endsL_get ep pss (k - 1) (by rw [HM.out]; omega), hq2, show k - 1 + 1 = k by omega]
                rw [hE2] at hce2
                cases hae2
                have hwk : IntKind.i64.wrap ((k : Int) - 1) = (k : Int) - 1 := by rw [IntKind.wrap_i64]; omega
                have htk : ((k : Int) - 1).toNat = k - 1 := by omega
                have hkm' : (k : Int) - 1 < (m : Int) := by omega
                have hk00' : (0 : Int) ≤ (k : Int) - 1 := by omega
                clear hE2
                clear hq1 hq2 HLq hkl HSC HKle HKge HM HEC HQL HLX4 HLY4 HLI4 HLC
                go_wp2_with fail
                refine (HL1.out wr (Below.refl _ _)).mono ?_
                rintro e w5 ⟨rfl, hb5⟩
                have HB5 := Lib.hid hb5
                clear hb5
                go_wp2_with fail
                refine (HL2.out w5 HB5.out).mono ?_
                rintro e w6 ⟨rfl, hb6⟩
                have HB6 := Lib.hid (below_step HB5.out hb6)
                clear hb6
                go_wp2_with fail
                refine (HSU.out w6).mono ?_
                rintro e w7 ⟨rfl, hb7⟩
                have HB7 := Lib.hid (below_step HB4.out (below_step HB6.out hb7))
                clear hb7
                go_wp2_with fail
                go_ret
                exact ⟨rfl, HB7.out⟩
              · obtain rfl : k = 0 := by omega
                rw [Nat.add_zero] at hce
                have hq := HSC.out 0 hk HKle.out HKge.out
                simp only [Prod.mk.injEq] at hq
                obtain ⟨hq1, hq2⟩ := hq
                have hkl : (pss.take 0).length = 0 := by rw [List.length_take, HM.out]; omega
                have HLq := Lib.hid (HLI4.out.take 0)
                have hkc : (0 : Int) ≤ (lc : Int) := by have := HLC.out; omega
                have hkc0 : (0 : Int) ≤ (0 : Int) := by omega
                have HL1 : Hid (∀ W, Below wr.heap.size wr W → Calls Try.prog 7 #[.slice lx m cx, .slice la m lc] W fun e w' => e = .returned (.bool true) ∧ Below W.heap.size W w') := Lib.hid fun W hW => lists_ lx la pss m cx lc W HM.out (by omega) (HLX4.out.on hW) (HLI4.out.on hW)
                have HL2 : Hid (∀ W, Below wr.heap.size wr W → Calls Try.prog 7 #[.slice ly ql cy, .slice la 0 lc] W fun e w' => e = .returned (.bool true) ∧ Below W.heap.size W w') := Lib.hid fun W hW => by
                  have hql : ql = 0 := by rw [← HQL.out, hq1, hkl]
                  rw [hql]
                  have hly := HLY4.out.on hW
                  rw [hq1] at hly
                  exact lists_ ly la (pss.take 0) 0 cy lc W hkl (by omega) hly (HLq.out.on hW)
                have hqz : ((qn : Int) == 0) = true := by
                  rw [hq2, List.take_zero, allB_nil]
                  rfl
                clear hq1 hq2 HLq hkl HSC HKle HKge HM HEC HQL HLX4 HLY4 HLI4 HLC
                go_wp2_with fail
                refine (HL1.out wr (Below.refl _ _)).mono ?_
                rintro e w5 ⟨rfl, hb5⟩
                have HB5 := Lib.hid hb5
                clear hb5
                go_wp2_with fail
                refine (HL2.out w5 HB5.out).mono ?_
                rintro e w6 ⟨rfl, hb6⟩
                have HB6 := Lib.hid (below_step HB5.out hb6)
                clear hb6
                go_wp2_with fail
                refine (HSU.out w6).mono ?_
                rintro e w7 ⟨rfl, hb7⟩
                have HB7 := Lib.hid (below_step HB4.out (below_step HB6.out hb7))
                clear hb7
                go_wp2_with fail
                go_ret
                exact ⟨rfl, HB7.out⟩
end Go.Proofs.Ytbplklfkkmhijaa
