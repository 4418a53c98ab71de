/- The walk of the document's Restart. -/
import Derived.Test.YtjnhcanohefjiaaGreatDoorRSync2
namespace Go.Proofs.YtjnhcanohefjiaaGreatDoor
open Go.RowKit Go.Sort Go.Maps

def cntP (l : List RS) : Nat := (l.filter (·.pend)).length
def restO (x : RS) (n : Int) : RS := if x.pend = true then ⟨x.key, chosenC n x.now x.safe, x.now, false⟩ else x
theorem restR_append : ∀ (A B : List RS) (ns : List Int), restR (A ++ B) ns = restR A ns ++ restR B (ns.drop (cntP A))
  | [], B, ns => by simp [restR, cntP]
  | x :: A, B, ns => by
    show restR (x :: (A ++ B)) ns = _
    by_cases hp : x.pend = true
    · have e : ns.tail.drop (cntP A) = ns.drop (cntP (x :: A)) := by simp [cntP, hp, Nat.add_comm]
      simp only [restR, if_pos hp, List.cons_append, restR_append A B, e]
    · have e : cntP (x :: A) = cntP A := by simp [cntP, hp]
      simp only [restR, if_neg hp, List.cons_append, restR_append A B, e]
theorem restR_take {l : List RS} {i : Nat} (ns : List Int) (h : i < l.length) : restR (l.take (i + 1)) ns = restR (l.take i) ns ++ [restO l[i] ((ns.drop (cntP (l.take i))).headD 0)] := by
  rw [List.take_succ_eq_append_getElem h, restR_append]
  congr 1
  unfold restO
  by_cases hp : l[i].pend = true <;> simp [restR, hp]
theorem cntP_take {l : List RS} {i : Nat} (h : i < l.length) : cntP (l.take (i + 1)) = cntP (l.take i) + if l[i].pend = true then 1 else 0 := by
  unfold cntP
  rw [List.take_succ_eq_append_getElem h, List.filter_append, List.length_append]
  by_cases hp : l[i].pend = true <;> simp [hp]
theorem cntP_le (l : List RS) : cntP l ≤ l.length := List.length_filter_le _ _
theorem head_at {ns : List Int} {k : Nat} (h : k < ns.length) : (ns.drop k).headD 0 = ns[k] := by
  rw [List.drop_eq_getElem_cons h]; rfl
theorem head_past {ns : List Int} {k : Nat} (h : ns.length ≤ k) : (ns.drop k).headD 0 = 0 := by
  rw [List.drop_eq_nil_of_le h]; rfl
theorem bs_take (xs : List Nat) (n : Nat) : (bs xs).extract 0 n = bs (xs.take n) := by
  apply ByteArray.ext
  simp [bs, List.map_take]
theorem bs_drop (xs : List Nat) (n : Nat) : (bs xs).extract n (bs xs).size = bs (xs.drop n) := by
  apply ByteArray.ext
  rw [bs_size]
  simp only [bs, List.map_drop, ByteArray.data_extract, List.extract_toArray]
  rw [List.extract_eq_take_drop, List.take_of_length_le (by simp)]
theorem bs_torn (xs ys : List Nat) : (bs xs).extract 0 32 ++ (bs ys).extract 32 (bs ys).size = bs (tornC xs ys) := by
  rw [bs_take, bs_drop, bs_append]; rfl
set_option maxRecDepth 100000 in
set_option maxHeartbeats 8000000 in
theorem rrest0_ (r s lf : Int) (cr ar : Bool) (a : Option Addr) (L c : Nat) (l : List RS) (ca : Option Addr) (ns : List Int) (cn cc : Nat) (w : World) (hL : L = l.length) (h : SecsIn w a l) (hl : L ≤ 1000) (hci : IntsIn w ca ns) (hcn : ns.length = cn) (hok : ∀ y ∈ l, y.safe.length = 64 ∧ y.now.length = 64) :
    Calls Tryz.prog 40 #[.agg #[.int .i64 r, .int .i64 s, .slice a L c, .bool cr, .bool ar, .int .i64 lf], .slice ca cn cc] w fun e w' => (∃ a' c', e = .returned (.agg #[.int .i64 r, .int .i64 s, .slice a' (restR l ns).length c', .bool false, .bool false, .int .i64 lf]) ∧ LstS w' a' c' (restR l ns)) ∧ Below w.heap.size w w' := by
  obtain ⟨W, hW⟩ : ∃ W, W = (w.alloc (.cells #[.int .i64 r, .int .i64 s, .slice a L c, .bool cr, .bool ar, .int .i64 lf] 33)).alloc (.cells #[.int .i64 0, .int .i64 0, .slice none 0 0, .bool false, .bool false, .int .i64 0] 33) := ⟨_, rfl⟩
  have HB1 : Hid (Below w.heap.size w W) := by rw [hW]; exact below_two w _ _
  have HG1 : Hid (W.heap[w.heap.size]? = some (.cells #[.int .i64 r, .int .i64 s, .slice a L c, .bool cr, .bool ar, .int .i64 lf] 33 (0, 0))) := by rw [hW]; exact (heap_two w _ _).2
  have HG1' : Hid (W.heap[w.heap.size + 1]? = some (.cells #[.int .i64 0, .int .i64 0, .slice none 0 0, .bool false, .bool false, .int .i64 0] 33 (0, 0))) := by rw [hW]; exact (heap_two w _ _).1
  have HW := Lib.hid hW
  have HI1 := Lib.hid (h.on HB1.out)
  have HC1 := Lib.hid (hci.on HB1.out)
  have HL := Lib.hid hL
  have HCN := Lib.hid hcn
  have HOK := Lib.hid hok
  clear hW h hci hL hcn hok
  go_enter Tryz.func40, Tryz.ntmps40
  go_wp2_with fail
  rw [← HW.out]
  clear HW
  go_loopw [5, 6, 7, 8, 9] (fun sv kv iv _ _ wr => ∃ (ov : Value) (k i : Nat), ov = sv ∧ i ≤ L ∧ (iv = .int .i64 i ∧ kv = .int .i64 k) ∧ Hid (k = cntP (l.take i)) ∧ Hid (OwnS wr W.heap.size ov (restR (l.take i) ns)) ∧ Hid (Below W.heap.size W wr)) (fun _ _ iv _ _ _ => L - (intOf iv).toNat)
  case atStart => exact ⟨_, 0, 0, rfl, Nat.zero_le _, ⟨rfl, rfl⟩, rfl, ownS_nil _ _, Below.refl _ _⟩
  case round =>
    obtain ⟨ov, k, i, rfl, hi, ⟨rfl, rfl⟩, HK, HO, HBr⟩ := hrel
    have hgr := (HBr.out.block _ (blk_lt HG1.out)).trans HG1.out
    have hsz := HBr.out.size
    by_cases hlt : i < L
    · have hlt2 : (i : Int) < (L : Int) := by omega
      have hi2 : i < l.length := by rw [← HL.out]; exact hlt
      obtain ⟨_, _, c2, _, _, _⟩ := rd_cells hgr
      obtain ⟨b, o, rfl, hs⟩ := (HI1.out.on HBr.out) i hi2
      obtain ⟨q0, q1, q2, q3, q4⟩ := hs.cells
      have hT := restR_take ns hi2
      rw [← HK.out] at hT
      have HT := Lib.hid hT
      have HKt := Lib.hid (cntP_take hi2)
      have hkl : k ≤ 1000 := by have := cntP_le (l.take i); rw [← HK.out, List.length_take] at this; omega
      have H64 := Lib.hid (HOK.out _ (List.getElem_mem hi2))
      clear hs hgr hT
      generalize l[i] = x at *
      obtain ⟨⟨x1, x2⟩, sa, no, pe⟩ := x
      simp only at q0 q1 q2 q3 q4
      have HN64 : Hid ((bs no).size = 64) := by show (bs no).size = 64; rw [bs_size]; exact H64.out.2
      have HS64 : Hid ((bs sa).size = 64) := by show (bs sa).size = 64; rw [bs_size]; exact H64.out.1
      cases pe
      · have HK1 : Hid (k = cntP (l.take (i + 1))) := by show k = _; rw [HKt.out, ← HK.out]; rfl
        have HX : Hid (restR (l.take (i + 1)) ns = restR (l.take i) ns ++ [⟨(x1, x2), sa, no, false⟩]) := by
          show _ = _
          rw [HT.out]; rfl
        clear HT
        go_wp2_with (first
          | (at_builtin; refine wpList_append_secs W.heap.size _ W rfl _ _ rfl ov (restR (l.take i) ns) [⟨(x1, x2), sa, no, false⟩] rfl (HO.out.on (below_two wr _ _)) (some ⟨wr.heap.size + 1, 0, none⟩) 1 1 rfl rfl (fun hh => by cases hh) (sec_five (heap_two wr _ _).1) (by rw [length_restR, List.length_take]; simp; omega) (Nat.le_refl _) (HBr.out.trans ((below_two wr _ _).mono hsz)) ?_
             intro v1 w3 hown1 hb3 _
             have HO1 : Hid (OwnS w3 W.heap.size v1 (restR (l.take (i + 1)) ns)) := by rw [HX.out]; exact hown1
             have HB3 := Lib.hid hb3
             clear hown1 hb3)
          | fail)
        go_roundw
        case rel => exact ⟨_, _, i + 1, rfl, by omega, ⟨by go_num, rfl⟩, HK1, HO1, HB3⟩
        case measure => simp [intOf]; omega

      · have HK1 : Hid (k + 1 = cntP (l.take (i + 1))) := by show k + 1 = _; rw [HKt.out, ← HK.out]; rfl
        by_cases hk : k < cn
        · have hk2 : (k : Int) < (cn : Int) := by omega
          have hkn : k < ns.length := by rw [HCN.out]; exact hk
          obtain ⟨cb, co, rfl, qc⟩ := (HC1.out.on HBr.out) k hkn
          have HQC := Lib.hid (fun o' => ((below_alloc wr o').cell (block_lt_of_cell qc)).trans qc)
          have hhd := head_at hkn
          rw [hhd] at HT
          generalize ns[k] = nv at *
          have qc' := fun o' => HQC.out o'
          clear hhd qc
          by_cases n1 : nv = 1
          · have k1 : (nv == 1) = true := by simpa using n1
            have k2 : (nv == 2) = false := by simp; omega
            have HX : Hid (restR (l.take (i + 1)) ns = restR (l.take i) ns ++ [⟨(x1, x2), no, no, false⟩]) := by
              show _ = _
              rw [HT.out]; simp only [restO]; simp [chosenC, n1]
            clear HT
            clear n1

            go_wp2_with (first
              | (at_builtin; refine wpList_append_secs W.heap.size _ W rfl _ _ rfl ov (restR (l.take i) ns) [⟨(x1, x2), no, no, false⟩] rfl (HO.out.on (below_two wr _ _)) (some ⟨wr.heap.size + 1, 0, none⟩) 1 1 rfl rfl (fun hh => by cases hh) (sec_five (heap_two wr _ _).1) (by rw [length_restR, List.length_take]; simp; omega) (Nat.le_refl _) (HBr.out.trans ((below_two wr _ _).mono hsz)) ?_
                 intro v1 w3 hown1 hb3 _
                 have HO1 : Hid (OwnS w3 W.heap.size v1 (restR (l.take (i + 1)) ns)) := by rw [HX.out]; exact hown1
                 have HB3 := Lib.hid hb3
                 clear hown1 hb3)
              | fail)
            go_roundw
            case rel => exact ⟨_, _, i + 1, rfl, by omega, ⟨by go_num, by go_num⟩, HK1, HO1, HB3⟩
            case measure => simp [intOf]; omega

          · have k1 : (nv == 1) = false := by simpa using n1
            by_cases n2 : nv = 2
            · have k2 : (nv == 2) = true := by simpa using n2
              have HX : Hid (restR (l.take (i + 1)) ns = restR (l.take i) ns ++ [⟨(x1, x2), tornC no sa, no, false⟩]) := by
                show _ = _
                rw [HT.out]; simp only [restO]; simp [chosenC, n2]
              clear HT
              clear n1 n2

              go_wp2_with fail
              obtain ⟨V, hV⟩ : ∃ V, V = wr.alloc (.cells #[.int .i64 x1, .int .i64 x2, .string (bs sa), .string (bs no), .bool true] 110) := ⟨_, rfl⟩
              have hX : V.heap[wr.heap.size]? = some (.cells #[.int .i64 x1, .int .i64 x2, .string (bs sa), .string (bs no), .bool true] 110 (0, 0)) := by rw [hV]; exact alloc_at wr _
              have hBV : Below wr.heap.size wr V := by rw [hV]; exact below_alloc wr _
              rw [← hV]
              have p0 : V.cell? ⟨wr.heap.size, 0, none⟩ = _ := cell_of hX rfl
              have p1 : V.cell? ⟨wr.heap.size, 1, none⟩ = _ := cell_of hX rfl
              have p2 : V.cell? ⟨wr.heap.size, 2, none⟩ = _ := cell_of hX rfl
              have p3 : V.cell? ⟨wr.heap.size, 3, none⟩ = _ := cell_of hX rfl
              have p4 : V.cell? ⟨wr.heap.size, 4, none⟩ = _ := cell_of hX rfl
              have z2 : V.frozen? ⟨wr.heap.size, 2, none⟩ = false := frozen_of hX
              have z4 : V.frozen? ⟨wr.heap.size, 4, none⟩ = false := frozen_of hX
              have HXV := Lib.hid (And.intro hX hBV)
              have hTn := bs_torn no sa
              rw [HS64.out] at hTn
              have HTn := Lib.hid hTn
              clear hTn
              clear hV hX hBV
              have g1 : (bs no).size = 64 := HN64.out
              have g2 : (bs sa).size = 64 := HS64.out
              go_region
              rw [HTn.out]
              have hX2 : ((V.setCell ⟨wr.heap.size, 2, none⟩ (.string (bs (tornC no sa)))).drew).heap[wr.heap.size]? = some (.cells #[.int .i64 x1, .int .i64 x2, .string (bs (tornC no sa)), .string (bs no), .bool true] 110 (0, 0)) := by
                have := heap_set (o := 2) (.string (bs (tornC no sa))) HXV.out.1
                show (V.setCell ⟨wr.heap.size, 2, none⟩ (.string (bs (tornC no sa)))).heap[wr.heap.size]? = _
                simpa using this
              have hB2 : Below wr.heap.size wr ((V.setCell ⟨wr.heap.size, 2, none⟩ (.string (bs (tornC no sa)))).drew) := (below_set HXV.out.2 (Nat.le_refl _) _).drew
              clear p0 p1 p2 p3 p4 z2 z4 HXV HTn
              generalize (V.setCell ⟨wr.heap.size, 2, none⟩ (.string (bs (tornC no sa)))).drew = V2 at *
              have p0 : V2.cell? ⟨wr.heap.size, 0, none⟩ = _ := cell_of hX2 rfl
              have p1 : V2.cell? ⟨wr.heap.size, 1, none⟩ = _ := cell_of hX2 rfl
              have p2 : V2.cell? ⟨wr.heap.size, 2, none⟩ = _ := cell_of hX2 rfl
              have p3 : V2.cell? ⟨wr.heap.size, 3, none⟩ = _ := cell_of hX2 rfl
              have p4 : V2.cell? ⟨wr.heap.size, 4, none⟩ = _ := cell_of hX2 rfl
              have z4 : V2.frozen? ⟨wr.heap.size, 4, none⟩ = false := frozen_of hX2
              have HB2 := Lib.hid (below_set (o := 4) hB2 (Nat.le_refl _) (.bool false))
              have HN2 : Hid (∀ o', ((V2.setCell ⟨wr.heap.size, 4, none⟩ (.bool false)).alloc o').heap[V2.heap.size]? = some o') := fun o' => by
                have := alloc_at (V2.setCell ⟨wr.heap.size, 4, none⟩ (.bool false)) o'
                simpa using this
              clear hX2 hB2
              go_wp2_with (first
                | (at_builtin; refine wpList_append_secs W.heap.size _ W rfl _ _ rfl ov (restR (l.take i) ns) [⟨(x1, x2), tornC no sa, no, false⟩] rfl ((HO.out.on HB2.out).on (below_alloc _ _)) (some ⟨V2.heap.size, 0, none⟩) 1 1 rfl rfl (fun hh => by cases hh) (sec_five (HN2.out _)) (by rw [length_restR, List.length_take]; simp; omega) (Nat.le_refl _) (HBr.out.trans ((below_step HB2.out (below_alloc _ _)).mono hsz)) ?_
                   intro v1 w3 hown1 hb3 _
                   have HO1 : Hid (OwnS w3 W.heap.size v1 (restR (l.take (i + 1)) ns)) := by rw [HX.out]; exact hown1
                   have HB3 := Lib.hid hb3
                   clear hown1 hb3)
                | fail)
              go_roundw
              case rel => exact ⟨_, _, i + 1, rfl, by omega, ⟨by go_num, by go_num⟩, HK1, HO1, HB3⟩
              case measure => simp [intOf]; omega

            · have k2 : (nv == 2) = false := by simpa using n2
              have HX : Hid (restR (l.take (i + 1)) ns = restR (l.take i) ns ++ [⟨(x1, x2), sa, no, false⟩]) := by
                show _ = _
                rw [HT.out]; simp only [restO]; simp [chosenC, n1, n2]
              clear HT
              clear n1 n2

              go_wp2_with (first
                | (at_builtin; refine wpList_append_secs W.heap.size _ W rfl _ _ rfl ov (restR (l.take i) ns) [⟨(x1, x2), sa, no, false⟩] rfl (HO.out.on (below_two wr _ _)) (some ⟨wr.heap.size + 1, 0, none⟩) 1 1 rfl rfl (fun hh => by cases hh) (sec_five (heap_two wr _ _).1) (by rw [length_restR, List.length_take]; simp; omega) (Nat.le_refl _) (HBr.out.trans ((below_two wr _ _).mono hsz)) ?_
                   intro v1 w3 hown1 hb3 _
                   have HO1 : Hid (OwnS w3 W.heap.size v1 (restR (l.take (i + 1)) ns)) := by rw [HX.out]; exact hown1
                   have HB3 := Lib.hid hb3
                   clear hown1 hb3)
                | fail)
              go_roundw
              case rel => exact ⟨_, _, i + 1, rfl, by omega, ⟨by go_num, by go_num⟩, HK1, HO1, HB3⟩
              case measure => simp [intOf]; omega

        · have hk2 : ¬ (k : Int) < (cn : Int) := by omega
          have hhd := head_past (ns := ns) (k := k) (by rw [HCN.out]; omega)
          rw [hhd] at HT
          clear hhd
          have HX : Hid (restR (l.take (i + 1)) ns = restR (l.take i) ns ++ [⟨(x1, x2), sa, no, false⟩]) := by
            show _ = _
            rw [HT.out]; simp only [restO]; simp [chosenC]
          clear HT

          go_wp2_with (first
            | (at_builtin; refine wpList_append_secs W.heap.size _ W rfl _ _ rfl ov (restR (l.take i) ns) [⟨(x1, x2), sa, no, false⟩] rfl (HO.out.on (below_two wr _ _)) (some ⟨wr.heap.size + 1, 0, none⟩) 1 1 rfl rfl (fun hh => by cases hh) (sec_five (heap_two wr _ _).1) (by rw [length_restR, List.length_take]; simp; omega) (Nat.le_refl _) (HBr.out.trans ((below_two wr _ _).mono hsz)) ?_
               intro v1 w3 hown1 hb3 _
               have HO1 : Hid (OwnS w3 W.heap.size v1 (restR (l.take (i + 1)) ns)) := by rw [HX.out]; exact hown1
               have HB3 := Lib.hid hb3
               clear hown1 hb3)
            | fail)
          go_roundw
          case rel => exact ⟨_, _, i + 1, rfl, by omega, ⟨by go_num, by go_num⟩, HK1, HO1, HB3⟩
          case measure => simp [intOf]; omega

    · obtain rfl : i = L := by omega
      have hO := HO.out
      rw [List.take_of_length_le (by rw [HL.out]; exact Nat.le_refl _)] at hO
      obtain ⟨a3, cc3, rfl, hlst⟩ := hO.lst
      have HLs := Lib.hid hlst
      have HG8 := Lib.hid hgr
      have hgr' := (HBr.out.block _ (blk_lt HG1'.out)).trans HG1'.out
      have HG8' := Lib.hid hgr'
      have HB8 := Lib.hid (below_step HB1.out HBr.out)
      obtain ⟨c0, c1, c2, c3, c4, c5⟩ := rd_cells hgr
      obtain ⟨d0, d1, d2, d3, d4, d5⟩ := rd_cells hgr'
      have e2 : wr.frozen? ⟨w.heap.size, 2, none⟩ = false := frozen_of hgr
      have e3 : wr.frozen? ⟨w.heap.size, 3, none⟩ = false := frozen_of hgr
      have e4 : wr.frozen? ⟨w.heap.size, 4, none⟩ = false := frozen_of hgr
      have f0 : wr.frozen? ⟨w.heap.size + 1, 0, none⟩ = false := frozen_of hgr'
      have f1 : wr.frozen? ⟨w.heap.size + 1, 1, none⟩ = false := frozen_of hgr'
      have f2 : wr.frozen? ⟨w.heap.size + 1, 2, none⟩ = false := frozen_of hgr'
      have f3 : wr.frozen? ⟨w.heap.size + 1, 3, none⟩ = false := frozen_of hgr'
      have f4 : wr.frozen? ⟨w.heap.size + 1, 4, none⟩ = false := frozen_of hgr'
      have f5 : wr.frozen? ⟨w.heap.size + 1, 5, none⟩ = false := frozen_of hgr'
      clear hO HO hlst hgr hgr' HBr hsz
      go_wp2_with fail
      have hfin := fin_rd (V := ((wr.setCell ⟨w.heap.size, 2, none⟩ (.slice a3 (restR l ns).length cc3)).setCell ⟨w.heap.size, 3, none⟩ (.bool false)).setCell ⟨w.heap.size, 4, none⟩ (.bool false)) (B0 := w.heap.size) (B1 := w.heap.size + 1) (below_set (below_set (below_set HB8.out (Nat.le_refl _) _) (Nat.le_refl _) _) (Nat.le_refl _) _) (Nat.le_succ _) (by omega) (fun k hk => ((heap_far _ hk).trans (heap_far _ hk)).trans (heap_far _ hk)) HG8.out HG8'.out HLs.out
      exact bodyPost_ret (results_rd1 rfl _ _ (w.heap.size + 1) _ rfl (hfin _ _ _ _ _ _).1 rfl) rfl ⟨⟨a3, cc3, rfl, (hfin _ _ _ _ _ _).2.1⟩, (hfin _ _ _ _ _ _).2.2⟩
end Go.Proofs.YtjnhcanohefjiaaGreatDoor
