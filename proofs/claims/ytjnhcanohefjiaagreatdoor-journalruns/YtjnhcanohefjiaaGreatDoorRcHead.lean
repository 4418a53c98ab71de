/- The walk of record.readHead. -/
import Derived.Test.YtjnhcanohefjiaaGreatDoorRcIs
import Derived.Test.YtjnhcanohefjiaaGreatDoorRcSure
namespace Go.Proofs.YtjnhcanohefjiaaGreatDoor
open Go.RowKit Go.Sort

theorem infoH : (Tryz.prog.info? 145).map (·.size) = some 3 := by kernel_rfl
theorem load_h {w : World} {b : Nat} {cs : Array Value} (h : w.heap[b]? = some (.cells cs 145 (0, 0))) (hc : cs.size = 3) : (loadVar 145 ⟨b, 0, none⟩).run Tryz.prog w = .ok (.agg cs) w :=
  run_loadVar_row w b 145 145 _ (0, 0) _ h Tryz.underlying145 rfl (by rw [hc]; exact infoH)
theorem store_h {w : World} {b : Nat} {old cs : Array Value} (h : w.heap[b]? = some (.cells old 145 (0, 0))) (ho : old.size = 3) (hc : cs.size = 3) (h1 : cs.all (·.oneCell') = true) : (Instr.storeAt 145 (.pointer (some ⟨b, 0, none⟩)) (.agg cs)).run Tryz.prog w = .ok () (w.setRow b cs) := by
  simp only [Instr.storeAt, Instr.sureAddr, Sem.run_bind, Sem.run_pure, Result.andThen]
  exact run_storeVar_row w b 145 145 _ _ h (by rw [hc]; exact infoH) (ho.trans hc.symm) h1
/-- A head is stored where the result lies. -/
theorem head_store {w W : World} (hB : Below w.heap.size w W) (hk : W.heap[w.heap.size]? = some (.cells #[.int .i64 0, .int .u64 0, .int .i64 0] 145 (0, 0))) (l e s : Int) :
    ∃ W2, (Instr.storeAt 145 (.pointer (some ⟨w.heap.size, 0, none⟩)) (.agg #[.int .i64 l, .int .u64 e, .int .i64 s])).run Tryz.prog W = .ok () W2 ∧ (loadVar 145 ⟨w.heap.size, 0, none⟩).run Tryz.prog W2 = .ok (.agg #[.int .i64 l, .int .u64 e, .int .i64 s]) W2 ∧ Below w.heap.size w W2 :=
  ⟨W.setRow w.heap.size #[.int .i64 l, .int .u64 e, .int .i64 s], store_h hk rfl rfl (by simp [Value.oneCell']), load_h (setRow_heap W _ _ _ 145 (0, 0) hk) rfl, below_setRow hB (Nat.le_refl _)⟩
/-- What readHead hands back. -/
def Headed (w : World) (R : Nat × Nat × Nat × Nat) (e : Ending) (w' : World) : Prop :=
  e = .returned (.tuple #[.agg #[.int .i64 R.1, .int .u64 R.2.1, .int .i64 R.2.2.1], errV R.2.2.2]) ∧ Below w.heap.size w w'
theorem BytesIn.drop {w : World} {b o : Nat} {xs : List Nat} (h : BytesIn w (some ⟨b, o, none⟩) xs) (k : Nat) : BytesIn w (some ⟨b, o + k, none⟩) (xs.drop k) := by
  intro i hi
  rw [List.length_drop] at hi
  obtain ⟨b', o', e, h1⟩ := h (k + i) (by omega)
  cases e
  refine ⟨b, o + k, rfl, ?_⟩
  rw [Nat.add_assoc, h1]
  congr 2
  rw [List.getD_eq_getElem?_getD, List.getD_eq_getElem?_getD, List.getElem?_drop]
theorem nbr_le (xs : List Nat) (hb : ∀ x ∈ xs, x < 256) : (nbr xs).1 < 18446744073709551616 ∧ (nbr xs).2.1 ≤ xs.length ∧ (nbr xs).2.1 ≤ 10 := by
  by_cases h : (nbr xs).2.2 = 0
  · obtain ⟨h1, h2, h3, h4⟩ := nbr_back xs hb h
    have := enc_le10 _ h4
    rw [h1, List.length_take] at this
    exact ⟨h4, h3, by omega⟩
  · obtain ⟨h1, h2⟩ := nbr_err xs h
    rw [h1, h2]
    exact ⟨by decide, Nat.zero_le _, Nat.zero_le _⟩
set_option maxRecDepth 100000 in
set_option maxHeartbeats 2000000 in
theorem readHead_ (a : Option Addr) (xs : List Nat) (n c : Nat) (w : World) (h : BytesIn w a xs) (hx : ∀ x ∈ xs, x < 256) (hn : xs.length = n) (hlim : n ≤ 4611686018427387904) (hcap : n ≤ c) :
    Calls Tryz.prog 74 #[.slice a n c] w (Headed w (hdR xs)) := by
  obtain ⟨V, hV⟩ : ∃ V, w.alloc (.cells #[.int .i64 0, .int .u64 0, .int .i64 0] 145) = V := ⟨_, rfl⟩
  have HV := Lib.hid hV
  have HB0 : Hid (Below w.heap.size w V) := Lib.hid (by rw [← hV]; exact below_alloc _ _)
  have HK0 : Hid (V.heap[w.heap.size]? = some (.cells #[.int .i64 0, .int .u64 0, .int .i64 0] 145 (0, 0))) := Lib.hid (by rw [← hV]; exact World.alloc_heap_new' _ _)
  clear hV
  have e0 : errV 0 = .nilIface := rfl
  obtain ⟨Z, hZst, hZld, hZb⟩ := head_store HB0.out HK0.out 0 0 0
  have ZS := Lib.hid hZst
  have ZL := Lib.hid hZld
  have ZB := Lib.hid hZb
  clear hZst hZld hZb
  have VL := Lib.hid (load_h HK0.out rfl)
  by_cases hn0 : n = 0
  · have e : hdR xs = (0, 0, 0, 8) := by unfold hdR; rw [if_pos (.inl (by omega))]
    rw [e]
    subst hn0
    unfold Headed
    have ev8 : errV 8 = .iface 68 (.int .i64 8) := rfl
    simp only [ev8]
    clear h hx hn e HK0
    go_enter Tryz.func74, Tryz.ntmps74
    go_wp2_with fail
    rw [HV.out]
    refine bodyPost_ret (v := .tuple #[.agg #[.int .i64 0, .int .u64 0, .int .i64 0], .iface 68 (.int .i64 8)]) ?_ rfl ⟨rfl, HB0.out⟩
    rw [results_cell_tmp rfl]
    simp [asAddr, Result.andThen, VL.out]
  · obtain ⟨b, o, rfl, hc0⟩ := h 0 (by omega)
    have hnb : ((n : Int) == 0) = false := by simpa using hn0
    have hcell : (w.alloc (.cells #[.int .i64 0, .int .u64 0, .int .i64 0] 145)).cell? ⟨b, o, none⟩ = some (.int .u8 (xs.getD 0 0 : Nat)) := (below_alloc w _).cell (block_lt_of_cell hc0) |>.trans hc0
    by_cases hy : xs.getD 0 0 = 0
    · have e : hdR xs = (0, 0, 0, 8) := by unfold hdR; rw [if_pos (.inr hy)]
      rw [e]
      rw [hy] at hcell
      have hpos : (0 : Int) < (n : Int) := by omega
      unfold Headed
      have ev8 : errV 8 = .iface 68 (.int .i64 8) := rfl
      simp only [ev8]
      clear h hx hn e HK0 hc0 hy
      go_enter Tryz.func74, Tryz.ntmps74
      go_wp2_with fail
      rw [HV.out]
      refine bodyPost_ret (v := .tuple #[.agg #[.int .i64 0, .int .u64 0, .int .i64 0], .iface 68 (.int .i64 8)]) ?_ rfl ⟨rfl, HB0.out⟩
      rw [results_cell_tmp rfl]
      simp [asAddr, Result.andThen, VL.out]
    · have hyb : ((xs.getD 0 0 : Nat) : Int) ≠ 0 := by omega
      have hyb2 : ((((xs.getD 0 0 : Nat) : Int)) == 0) = false := by simpa using hy
      have hor : ¬ (xs.length = 0 ∨ xs.getD 0 0 = 0) := by rintro (q | q); exact hn0 (by omega); exact hy q
      have e : hdR xs = if (nbr xs).2.2 ≠ 0 then (0, 0, 0, (nbr xs).2.2) else if 1048576 < (nbr xs).1 then (0, 0, 0, 11)
          else if (nbr (xs.drop (nbr xs).2.1)).2.2 ≠ 0 then (0, 0, 0, (nbr (xs.drop (nbr xs).2.1)).2.2) else ((nbr xs).1, (nbr (xs.drop (nbr xs).2.1)).1, (nbr xs).2.1 + (nbr (xs.drop (nbr xs).2.1)).2.1, 0) := by
        unfold hdR; rw [if_neg hor]
      generalize xs.getD 0 0 = y at *
      have HN1 := Lib.hid (number_ (some ⟨b, o, none⟩) xs c V (h.on HB0.out) hx (by omega))
      rw [hn] at HN1
      have hle := nbr_le xs hx
      have hdx : ∀ x ∈ xs.drop (nbr xs).2.1, x < 256 := fun x hm => hx x (List.mem_of_mem_drop hm)
      have hle2 := nbr_le (xs.drop (nbr xs).2.1) hdx
      have hdl : (xs.drop (nbr xs).2.1).length = n - (nbr xs).2.1 := by rw [List.length_drop, hn]
      have HN2 : Hid (∀ (A : Option Addr) cc, A = (if c = (nbr xs).2.1 then (some ⟨b, o, none⟩ : Option Addr) else some ⟨b, o + (nbr xs).2.1, none⟩) → Calls Tryz.prog 92 #[.slice A (n - (nbr xs).2.1) cc] V fun e w' => e = .returned (.tuple #[.int .u64 (nbr (xs.drop (nbr xs).2.1)).1, .int .i64 (nbr (xs.drop (nbr xs).2.1)).2.1, errV (nbr (xs.drop (nbr xs).2.1)).2.2]) ∧ w' = V) := Lib.hid fun A cc hA => by
        have hb : BytesIn V A (xs.drop (nbr xs).2.1) := by
          rw [hA]
          by_cases hck : c = (nbr xs).2.1
          · rw [List.drop_eq_nil_of_le (by omega)]; exact bytesIn_nil _ _
          · rw [if_neg hck]; exact (h.on HB0.out).drop _
        have := number_ A (xs.drop (nbr xs).2.1) cc V hb hdx (by omega)
        rw [hdl] at this
        exact this
      rw [e]
      rw [hdl] at hle2
      rw [hn] at hle
      generalize nbr (xs.drop (nbr xs).2.1) = M at *
      generalize nbr xs = N at *
      obtain ⟨l, k, e1⟩ := N
      obtain ⟨m, k2, e2⟩ := M
      simp only at HN1 HN2 hle hle2 ⊢
      have hpos : (0 : Int) < (n : Int) := by omega
      clear h hx hn e hc0 hor hdx hdl hy
      unfold Headed
      by_cases c1 : e1 ≠ 0
      · rw [if_pos c1]
        simp only [errV_not c1] at HN1 ⊢
        go_enter Tryz.func74, Tryz.ntmps74
        go_wp2_with fail
        rw [HV.out]
        refine HN1.out.mono ?_
        rintro e w1 ⟨rfl, rfl⟩
        go_wp2_with (first | (refine wpList_store_at rfl 145 _ _ rfl _ _ rfl rfl ZS.out ?_) | fail)
        refine bodyPost_ret (v := .tuple #[.agg #[.int .i64 0, .int .u64 0, .int .i64 0], .iface 68 (.int .i64 e1)]) ?_ rfl ⟨rfl, ZB.out⟩
        rw [results_cell_tmp rfl]
        simp [asAddr, Result.andThen, ZL.out]
      · obtain rfl : e1 = 0 := by omega
        rw [if_neg (by simp)]
        rw [e0] at HN1
        clear c1
        by_cases c2 : 1048576 < l
        · rw [if_pos c2]
          have hgt : (l : Int) > 1048576 := by omega
          have ev11 : errV 11 = .iface 68 (.int .i64 11) := rfl
          simp only [ev11]
          go_enter Tryz.func74, Tryz.ntmps74
          go_wp2_with fail
          rw [HV.out]
          refine HN1.out.mono ?_
          rintro e w1 ⟨rfl, rfl⟩
          go_wp2_with (first | (refine wpList_store_at rfl 145 _ _ rfl _ _ rfl rfl ZS.out ?_) | fail)
          refine bodyPost_ret (v := .tuple #[.agg #[.int .i64 0, .int .u64 0, .int .i64 0], .iface 68 (.int .i64 11)]) ?_ rfl ⟨rfl, ZB.out⟩
          rw [results_cell_tmp rfl]
          simp [asAddr, Result.andThen, ZL.out]
        · rw [if_neg c2]
          have hgt : ¬ (l : Int) > 1048576 := by omega
          have hkn : (k : Int) ≤ n := by omega
          have hkc : (k : Int) ≤ c := by omega
          by_cases c3 : e2 ≠ 0
          · rw [if_pos c3]
            simp only [errV_not c3] at HN2 ⊢
            go_enter Tryz.func74, Tryz.ntmps74
            go_wp2_with fail
            rw [HV.out]
            refine HN1.out.mono ?_
            rintro e w1 ⟨rfl, rfl⟩
            go_wp2_with fail
            all_goals
              refine (HN2.out _ _ (by first | rw [if_pos (by assumption)] | rw [if_neg (by assumption)] | simp_all)).mono ?_
              rintro e w1 ⟨rfl, rfl⟩
              go_wp2_with (first | (refine wpList_store_at rfl 145 _ _ rfl _ _ rfl rfl ZS.out ?_) | fail)
              refine bodyPost_ret (v := .tuple #[.agg #[.int .i64 0, .int .u64 0, .int .i64 0], .iface 68 (.int .i64 e2)]) ?_ rfl ⟨rfl, ZB.out⟩
              rw [results_cell_tmp rfl]
              simp [asAddr, Result.andThen, ZL.out]
          · obtain rfl : e2 = 0 := by omega
            rw [if_neg (by simp)]
            rw [e0] at HN2 ⊢
            clear c3 ZS ZL ZB
            obtain ⟨Z, hZst, hZld, hZb⟩ := head_store HB0.out HK0.out l m (k + k2 : Nat)
            rw [Int.natCast_add] at hZst hZld
            have ZS := Lib.hid hZst
            have ZL := Lib.hid hZld
            have ZB := Lib.hid hZb
            clear hZst hZld hZb
            simp only [Int.natCast_add]
            have hw1 : wrap64 (l : Int) = l := by unfold wrap64; omega
            go_enter Tryz.func74, Tryz.ntmps74
            go_wp2_with fail
            rw [HV.out]
            refine HN1.out.mono ?_
            rintro e w1 ⟨rfl, rfl⟩
            go_wp2_with fail
            all_goals
              refine (HN2.out _ _ (by first | rw [if_pos (by assumption)] | rw [if_neg (by assumption)] | simp_all)).mono ?_
              rintro e w1 ⟨rfl, rfl⟩
              go_wp2_with (first | (refine wpList_store_at rfl 145 _ _ rfl _ _ rfl rfl ZS.out ?_) | fail)
              refine bodyPost_ret (v := .tuple #[.agg #[.int .i64 l, .int .u64 m, .int .i64 ((k : Int) + k2)], .nilIface]) ?_ rfl ⟨rfl, ZB.out⟩
              rw [results_cell_tmp rfl]
              simp [asAddr, Result.andThen, ZL.out]
end Go.Proofs.YtjnhcanohefjiaaGreatDoor
