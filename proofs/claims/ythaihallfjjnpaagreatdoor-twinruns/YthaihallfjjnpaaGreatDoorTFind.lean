/- twin.find: what bytes hold. -/
import Derived.Test.YthaihallfjjnpaaGreatDoorTArea
import Derived.Test.YthaihallfjjnpaaGreatDoorTRead
import Derived.Test.YthaihallfjjnpaaGreatDoorJ2
import Derived.Test.YthaihallfjjnpaaGreatDoorJ3
import Derived.Lib.ConvBytes
namespace Go.Proofs.YthaihallfjjnpaaGreatDoor
open Go.RowKit Go.Sort Go.Maps

theorem infoK : (Tryz.prog.info? 70).map (·.size) = some 2 := by kernel_rfl
theorem load_k {w : World} {b : Nat} {cs : Array Value} (h : w.heap[b]? = some (.cells cs 70 (0, 0))) (hc : cs.size = 2) : (loadVar 70 ⟨b, 0, none⟩).run Tryz.prog w = .ok (.agg cs) w :=
  run_loadVar_row w b 70 70 _ (0, 0) _ h Tryz.underlying70 rfl (by rw [hc]; exact infoK)
theorem store_k {w : World} {b : Nat} {old cs : Array Value} (h : w.heap[b]? = some (.cells old 70 (0, 0))) (ho : old.size = 2) (hc : cs.size = 2) (h1 : cs.all (·.oneCell') = true) : (Instr.storeAt 70 (.pointer (some ⟨b, 0, none⟩)) (.agg cs)).run Tryz.prog w = .ok () (w.setRow b cs) := by
  simp only [Instr.storeAt, Instr.sureAddr, Sem.run_bind, Sem.run_pure, Result.andThen]
  exact run_storeVar_row w b 70 70 _ _ h (by rw [hc]; exact infoK) (ho.trans hc.symm) h1
/-- What find keeps is stored where its result lies. -/
theorem kept_store {w W : World} (hB : Below w.heap.size w W) (hk : W.heap[w.heap.size]? = some (.cells #[.int .u64 0, .slice none 0 0] 70 (0, 0))) (n : Nat) (a : Option Addr) (l c : Nat) :
    ∃ W2, (Instr.storeAt 70 (.pointer (some ⟨w.heap.size, 0, none⟩)) (.agg #[.int .u64 n, .slice a l c])).run Tryz.prog W = .ok () W2 ∧ (loadVar 70 ⟨w.heap.size, 0, none⟩).run Tryz.prog W2 = .ok (.agg #[.int .u64 n, .slice a l c]) W2 ∧ Below w.heap.size w W2 ∧ ∀ k, k ≠ w.heap.size → W2.heap[k]? = W.heap[k]? := by
  refine ⟨W.setRow w.heap.size #[.int .u64 n, .slice a l c], store_k hk rfl rfl (by simp [Value.oneCell']), load_k (setRow_heap W _ _ _ 70 (0, 0) hk) rfl, below_setRow hB (Nat.le_refl _), fun k hne => setRow_other W _ k _ hne⟩
/-- What []byte(s) makes. -/
theorem conv_back (w : World) (s : ByteArray) : ∃ c W, (convert 9 37 (.string s)).run Tryz.prog w = .ok (.slice (some ⟨w.heap.size, 0, none⟩) s.size c) W ∧ BytesIn W (some ⟨w.heap.size, 0, none⟩) (sb s) ∧ s.size ≤ c ∧ Below w.heap.size w W := by
  refine ⟨_, _, Lib.run_convert_string_bytes w 9 37 5 s Tryz.underlying9 Tryz.underlying37 Tryz.underlying5, ?_, ?_, ?_⟩
  · intro i hi
    rw [sb_length] at hi
    refine ⟨_, _, rfl, ?_⟩
    rw [Nat.zero_add, Lib.bytesWorld_cell w 5 s i hi]
    simp [sb, List.getD_eq_getElem?_getD, List.getElem?_map]
    rw [Array.getElem?_eq_getElem (show i < s.data.size from hi)]
    simp
  · exact grownCap_ge w _ 0 _
  · refine ⟨rfl, rfl, rfl, by rw [Lib.bytesWorld_size]; omega, fun k hk => Lib.bytesWorld_at_old w _ s k hk⟩
/-- What find hands back. -/
def Found (w : World) (n : Nat) (ts : List Nat) (e : Ending) (w' : World) : Prop :=
  ∃ a c, e = .returned (.agg #[.int .u64 n, .slice a ts.length c]) ∧ BytesIn w' a ts ∧ (a = none → c = 0) ∧ ts.length ≤ c ∧ Below w.heap.size w w'
theorem found_none {w w' : World} (hb : Below w.heap.size w w') : Found w 0 [] (.returned (.agg #[.int .u64 0, .slice none 0 0])) w' := ⟨none, 0, rfl, bytesIn_nil _ _, fun _ => rfl, Nat.le_refl _, hb⟩
def kpW (w : World) : World := w.alloc (.cells #[.int .u64 0, .slice none 0 0] 70)
theorem kpW_at (w : World) : (kpW w).heap[w.heap.size]? = some (.cells #[.int .u64 0, .slice none 0 0] 70 (0, 0)) := World.alloc_heap_new' _ _
theorem kpW_below (w : World) : Below w.heap.size w (kpW w) := (Below.refl _ _).alloc (Nat.le_refl _) _
theorem sb_bs (xs : List Nat) (hx : ∀ x ∈ xs, x < 256) : sb (bs xs) = xs := by
  unfold sb bs
  simp only [List.map_map]
  conv => rhs; rw [← List.map_id xs]
  apply List.map_congr_left
  intro x h
  have := hx x h
  simp [UInt8.toNat_ofNat', Nat.mod_eq_of_lt this]
set_option maxRecDepth 100000 in
set_option maxHeartbeats 1000000 in
theorem find_ (b o : Nat) (xs : List Nat) (n c : Nat) (w : World) (h : BytesIn w (some ⟨b, o, none⟩) xs) (hx : ∀ x ∈ xs, x < 256) (hn : xs.length = n) (hn0 : 11 ≤ n) (hlim : n ≤ 1048576) (hcap : n ≤ c) :
    Calls Tryz.prog 51 #[.slice (some ⟨b, o, none⟩) n c] w (Found w (heldB xs).1 (heldB xs).2) := by
  have HU : Hid (∀ W, Below w.heap.size w W → Calls Tryz.prog 72 #[.slice (some ⟨b, o, none⟩) n c] W fun e w' => e = .returned (.tuple #[.int .u64 (rdU xs).1, .int .i64 (rdU xs).2.1, errV (rdU xs).2.2]) ∧ w' = W) := fun W hW => by
    have := uint_ (some ⟨b, o, none⟩) xs c W (h.on hW) hx (by omega)
    rw [hn] at this
    exact this
  have hlt := rdU_lt xs hx
  have hsz : (rdU xs).2.1 ≤ 10 := by
    by_cases he : (rdU xs).2.2 = 0
    · obtain ⟨h1, h2, h3, h4⟩ := rdU_back xs hx he
      have := enc_le10 _ h4
      rw [h1, List.length_take] at this
      omega
    · rw [(rdU_err xs he).2]; omega
  obtain ⟨k, hk⟩ : ∃ k, k = (rdU xs).2.1 := ⟨_, rfl⟩
  rw [← hk] at hlt hsz
  have hdl : (xs.drop k).length = n - k := by rw [List.length_drop, hn]
  have HT : Hid (∀ W, Below w.heap.size w W → Calls Tryz.prog 73 #[.slice (some ⟨b, o + k, none⟩) (n - k) (c - k), .int .i64 n] W fun e w' => e = .returned (.tuple #[.string (bs (rdT (xs.drop k) n).1), .int .i64 (rdT (xs.drop k) n).2.1, errV (rdT (xs.drop k) n).2.2]) ∧ w' = W) := fun W hW => by
    have hp := (h.on hW).part (k := k) (n := n - k) (by omega)
    rw [List.take_of_length_le (by omega)] at hp
    have := text_ (some ⟨b, o + k, none⟩) (xs.drop k) (c - k) n W hp (fun x h => hx x (List.mem_of_mem_drop h)) (by omega) (by omega) (by omega) (by omega)
    rw [hdl] at this
    exact this
  have htx : (rdT (xs.drop k) n).2.2 = 0 → (rdT (xs.drop k) n).2.1 ≤ n - k ∧ ∀ x ∈ (rdT (xs.drop k) n).1, x < 256 := by
    unfold rdT
    intro he
    split at he
    · cases he
    · rename_i h1
      split at he
      · rename_i h2; exact absurd he h2
      · rename_i h2
        split at he
        · cases he
        · rename_i h3
          split at he
          · cases he
          · rename_i h4
            have hlt2 := rdU_lt (xs.drop k) (fun x h => hx x (List.mem_of_mem_drop h))
            rw [if_neg h1, if_neg h2, if_neg h3, if_neg h4]
            refine ⟨?_, fun x h => hx x (List.mem_of_mem_drop (List.mem_of_mem_drop (List.mem_of_mem_take h)))⟩
            rw [hdl] at h4 hlt2
            show (rdU (xs.drop k)).2.1 + (rdU (xs.drop k)).1 ≤ n - k
            omega
  obtain ⟨R, hR⟩ : ∃ R, R = rdT (xs.drop k) n := ⟨_, rfl⟩
  have hheld : heldB xs = if (rdU xs).2.2 ≠ 0 ∨ (rdU xs).1 = 0 then (0, []) else if R.2.2 ≠ 0 then (0, []) else if n < k + R.2.1 + 4 then (0, []) else if (opn (xs.take (k + R.2.1 + 4))).2 ≠ 0 then (0, []) else ((rdU xs).1, R.1) := by
    unfold heldB; rw [hR, hk, hn]
  rw [← hR] at HT htx
  rw [hheld]
  rw [← hk] at HU
  generalize (rdU xs).1 = U at *
  generalize (rdU xs).2.2 = eu at *
  obtain ⟨ts, m, et⟩ := R
  simp only at HT htx hheld ⊢
  have HOp : Hid (∀ W, k + m + 4 ≤ n → Below w.heap.size w W → Calls Tryz.prog 74 #[.slice (some ⟨b, o, none⟩) (k + m + 4) c] W fun e w' => ∃ a c', e = .returned (.tuple #[.slice a (opn (xs.take (k + m + 4))).1.length c', errV (opn (xs.take (k + m + 4))).2]) ∧ Below W.heap.size W w') := fun W hle hW => by
    have hl2 : (xs.take (k + m + 4)).length = k + m + 4 := by rw [List.length_take]; omega
    have := open_ (some ⟨b, o, none⟩) (xs.take (k + m + 4)) c W ((h.on hW).take _) (fun x h => hx x (List.mem_of_mem_take h)) (by omega) (by omega)
    rw [hl2] at this
    exact this.mono fun e w' ⟨a, c', h1, _, _, _, h5⟩ => ⟨a, c', h1, h5⟩
  have HB0 := Lib.hid (kpW_below w)
  have HK0 := Lib.hid (kpW_at w)
  unfold kpW at HB0 HK0
  have HTx := Lib.hid htx
  clear h hx htx hdl hR hheld hk hn
  generalize opn (xs.take (k + m + 4)) = Op at *
  obtain ⟨os, oe⟩ := Op
  simp only at HOp ⊢
  generalize os.length = ol at *
  generalize hV : w.alloc (.cells #[.int .u64 0, .slice none 0 0] 70) = V at *
  have HV := Lib.hid hV
  clear hV
  by_cases c1 : eu ≠ 0
  · rw [if_pos (.inl c1)]
    simp only [errV_not c1] at HU
    go_enter Tryz.func51, Tryz.ntmps51
    go_wp2_with fail
    rw [HV.out]
    refine (HU.out V HB0.out).mono ?_
    rintro e w1 ⟨rfl, rfl⟩
    obtain ⟨W2, hst, hld, hb2, _⟩ := kept_store HB0.out HK0.out 0 none 0 0
    have HS := Lib.hid hst
    have HL := Lib.hid hld
    have HB2 := Lib.hid hb2
    clear hst hld hb2
    go_wp2_with (first | (refine wpList_store_at rfl 70 _ _ rfl _ _ rfl rfl HS.out ?_) | fail)
    refine bodyPost_ret (v := .agg #[.int .u64 0, .slice none 0 0]) ?_ rfl (found_none HB2.out)
    rw [results_cell rfl]
    simp [asAddr, Result.andThen, Act.put, HL.out]
  · obtain rfl : eu = 0 := by omega
    have e0 : errV 0 = .nilIface := rfl
    rw [e0] at HU
    clear c1
    by_cases c2 : U = 0
    · rw [if_pos (.inr c2)]
      have HU0 := Lib.hid c2
      clear c2
      go_enter Tryz.func51, Tryz.ntmps51
      go_wp2_with fail
      rw [HV.out]
      refine (HU.out V HB0.out).mono ?_
      rintro e w1 ⟨rfl, rfl⟩
      have hU0 : ((U : Int) == 0) = true := by simp [HU0.out]
      obtain ⟨W2, hst, hld, hb2, _⟩ := kept_store HB0.out HK0.out 0 none 0 0
      have HS := Lib.hid hst
      have HL := Lib.hid hld
      have HB2 := Lib.hid hb2
      clear hst hld hb2
      go_wp2_with (first | (refine wpList_store_at rfl 70 _ _ rfl _ _ rfl rfl HS.out ?_) | fail)
      refine bodyPost_ret (v := .agg #[.int .u64 0, .slice none 0 0]) ?_ rfl (found_none HB2.out)
      rw [results_cell rfl]
      simp [asAddr, Result.andThen, Act.put, HL.out]
    · rw [if_neg (by simp [c2])]
      have hU0 : ((U : Int) == 0) = false := by simpa using c2
      have hck : ¬ c = k := by omega
      have hkn : (k : Int) ≤ n := by omega
      have hkc : (k : Int) ≤ c := by omega
      clear c2
      by_cases c3 : et ≠ 0
      · rw [if_pos c3]
        simp only [errV_not c3] at HT
        go_enter Tryz.func51, Tryz.ntmps51
        go_wp2_with fail
        rw [HV.out]
        refine (HU.out V HB0.out).mono ?_
        rintro e w1 ⟨rfl, rfl⟩
        go_wp2_with fail
        refine (HT.out w1 HB0.out).mono ?_
        rintro e w2 ⟨rfl, rfl⟩
        obtain ⟨W2, hst, hld, hb2, _⟩ := kept_store HB0.out HK0.out 0 none 0 0
        have HS := Lib.hid hst
        have HL := Lib.hid hld
        have HB2 := Lib.hid hb2
        clear hst hld hb2
        go_wp2_with (first | (refine wpList_store_at rfl 70 _ _ rfl _ _ rfl rfl HS.out ?_) | fail)
        refine bodyPost_ret (v := .agg #[.int .u64 0, .slice none 0 0]) ?_ rfl (found_none HB2.out)
        rw [results_cell rfl]
        simp [asAddr, Result.andThen, Act.put, HL.out]
      · obtain rfl : et = 0 := by omega
        rw [if_neg (by simp)]
        rw [e0] at HT
        obtain ⟨hm, htb⟩ := HTx.out rfl
        have HTb := Lib.hid htb
        clear c3 HTx htb
        have w1 := wraps_i64 ((k : Int) + m) (by omega) (by omega)
        have w2 := wraps_i64 ((k : Int) + m + 4) (by omega) (by omega)
        by_cases c4 : n < k + m + 4
        · rw [if_pos c4]
          have hgt : (k : Int) + m + 4 > n := by omega
          go_enter Tryz.func51, Tryz.ntmps51
          go_wp2_with fail
          rw [HV.out]
          refine (HU.out V HB0.out).mono ?_
          rintro e w1 ⟨rfl, rfl⟩
          go_wp2_with fail
          refine (HT.out w1 HB0.out).mono ?_
          rintro e w2 ⟨rfl, rfl⟩
          obtain ⟨W2, hst, hld, hb2, _⟩ := kept_store HB0.out HK0.out 0 none 0 0
          have HS := Lib.hid hst
          have HL := Lib.hid hld
          have HB2 := Lib.hid hb2
          clear hst hld hb2
          go_wp2_with (first | (refine wpList_store_at rfl 70 _ _ rfl _ _ rfl rfl HS.out ?_) | fail)
          refine bodyPost_ret (v := .agg #[.int .u64 0, .slice none 0 0]) ?_ rfl (found_none HB2.out)
          rw [results_cell rfl]
          simp [asAddr, Result.andThen, Act.put, HL.out]
        · rw [if_neg c4]
          have hgt : ¬ (k : Int) + m + 4 > n := by omega
          have hle : k + m + 4 ≤ n := by omega
          have hb1 : (0 : Int) ≤ (k : Int) + m + 4 := by omega
          have hb2 : (k : Int) + m + 4 ≤ c := by omega
          have ht : ((k : Int) + m + 4).toNat = k + m + 4 := by omega
          by_cases c5 : oe ≠ 0
          · rw [if_pos c5]
            simp only [errV_not c5] at HOp
            go_enter Tryz.func51, Tryz.ntmps51
            go_wp2_with fail
            rw [HV.out]
            refine (HU.out V HB0.out).mono ?_
            rintro e w1 ⟨rfl, rfl⟩
            go_wp2_with fail
            refine (HT.out w1 HB0.out).mono ?_
            rintro e w2 ⟨rfl, rfl⟩
            go_wp2_with fail
            refine (HOp.out w2 hle HB0.out).mono ?_
            rintro e w3 ⟨a3, c3, rfl, hb3⟩
            have HB3 := Lib.hid (below_step HB0.out hb3)
            have HK3 := Lib.hid ((hb3.block _ (blk_lt HK0.out)).trans HK0.out)
            clear hb3
            obtain ⟨W2, hst, hld, hb2, _⟩ := kept_store HB3.out HK3.out 0 none 0 0
            have HS := Lib.hid hst
            have HL := Lib.hid hld
            have HB2 := Lib.hid hb2
            clear hst hld hb2
            go_wp2_with (first | (refine wpList_store_at rfl 70 _ _ rfl _ _ rfl rfl HS.out ?_) | fail)
            refine bodyPost_ret (v := .agg #[.int .u64 0, .slice none 0 0]) ?_ rfl (found_none HB2.out)
            rw [results_cell rfl]
            simp [asAddr, Result.andThen, Act.put, HL.out]
          · obtain rfl : oe = 0 := by omega
            rw [if_neg (by simp)]
            rw [e0] at HOp
            clear c5
            go_enter Tryz.func51, Tryz.ntmps51
            go_wp2_with fail
            rw [HV.out]
            refine (HU.out V HB0.out).mono ?_
            rintro e w1 ⟨rfl, rfl⟩
            go_wp2_with fail
            refine (HT.out w1 HB0.out).mono ?_
            rintro e w2 ⟨rfl, rfl⟩
            go_wp2_with fail
            refine (HOp.out w2 hle HB0.out).mono ?_
            rintro e w3 ⟨a3, c3, rfl, hb3⟩
            have HB3 := Lib.hid (below_step HB0.out hb3)
            have HK3 := Lib.hid ((hb3.block _ (blk_lt HK0.out)).trans HK0.out)
            clear hb3
            obtain ⟨cc, W4, hcv, hby4, hcc, hb4⟩ := conv_back w3 (bs ts)
            rw [bs_size] at hcv hcc
            rw [sb_bs ts HTb.out] at hby4
            have HB4 := below_step HB3.out hb4
            have HK4 := (hb4.block _ (blk_lt HK3.out)).trans HK3.out
            obtain ⟨W2, hst, hld, hb2, hoth⟩ := kept_store HB4 HK4 U (some ⟨w3.heap.size, 0, none⟩) ts.length cc
            have HS := Lib.hid hst
            have HL := Lib.hid hld
            have HE : Hid (Found w U ts (.returned (.agg #[.int .u64 U, .slice (some ⟨w3.heap.size, 0, none⟩) ts.length cc])) W2) := by
              refine ⟨_, _, rfl, ?_, (fun e => by cases e), hcc, hb2⟩
              intro i hi
              obtain ⟨b', o', e, h1⟩ := hby4 i hi
              cases e
              refine ⟨_, _, rfl, ?_⟩
              rw [← h1]
              have hne : w3.heap.size ≠ w.heap.size := by have := blk_lt HK3.out; omega
              simp [World.cell?, hoth _ hne]
            clear hst hld hb2 hoth HB4 HK4 hb4 hby4 HTb
            go_wp2_with (first | (refine wpList_store_at rfl 70 _ _ rfl _ _ rfl rfl HS.out ?_) | fail)
            refine bodyPost_ret (v := .agg #[.int .u64 U, .slice (some ⟨w3.heap.size, 0, none⟩) ts.length cc]) ?_ rfl HE.out
            rw [results_cell rfl]
            simp [asAddr, Result.andThen, Act.put, HL.out]
end Go.Proofs.YthaihallfjjnpaaGreatDoor
