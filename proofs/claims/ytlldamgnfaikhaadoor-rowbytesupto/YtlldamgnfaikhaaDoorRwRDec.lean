/- The walk of the document's Decode. -/
import Derived.Test.YtlldamgnfaikhaaDoorRwRRead
import Derived.Test.YtlldamgnfaikhaaDoorRwREnc
import Derived.Test.YtlldamgnfaikhaaDoorRwFirst
import Derived.Test.YtlldamgnfaikhaaDoorRwStep
import Derived.Test.YtlldamgnfaikhaaDoorKRefRead2
namespace Go.Proofs.YtlldamgnfaikhaaDoor
open Go.RowKit Go.Sort

theorem in4_at (X : World) (k n : Int) (t : ByteArray) (b : Bool) (ty : TypeId) (B : Nat) (hB : B = X.heap.size) : In4 (X.alloc (.cells #[.int .i64 k, .int .i64 n, .string t, .bool b] ty)) B 0 k n t b := hB ▸ in4_new X k n t b ty
/-- What the document's Decode tells. -/
def DDecTo (w : World) (cs : List Col) (xs : List Nat) (e : Ending) (w' : World) : Prop :=
  ((∃ (l : List Val) (a : Option Addr) (c : Nat), IsRow cs xs l ∧ e = .returned (.tuple #[.slice a l.length c, .int .i64 0]) ∧ ValsIn w' a l) ∨ ((∀ l, ¬ IsRow cs xs l) ∧ e = .returned (.tuple #[.slice none 0 0, .int .i64 3]))) ∧ Below w.heap.size w w'
set_option maxRecDepth 100000 in
set_option maxHeartbeats 2000000 in
theorem ddecode_ (nm : ByteArray) (at_ : Option Addr) (ct : Nat) (cs : List Col) (a : Option Addr) (c : Nat) (xs : List Nat) (w : World) (hc : ColsIn w at_ cs) (h : BytesIn w a xs) (hb : ∀ x ∈ xs, x < 256) (hcl : cs.length ≤ 1048576) (hlim : xs.length ≤ 9223372036854775) (hcap : xs.length ≤ c) :
    Calls Tryd.prog 10 #[.agg #[.string nm, .slice at_ cs.length ct], .slice a xs.length c] w (DDecTo w cs xs) := by
  obtain ⟨C, hC⟩ : ∃ C, cs.length = C := ⟨_, rfl⟩
  have HC := Lib.hid hC
  have HJ := Lib.hid hc
  have HX := Lib.hid h
  have HXb := Lib.hid hb
  obtain ⟨n, hn⟩ : ∃ n, xs.length = n := ⟨_, rfl⟩
  have HN := Lib.hid hn
  rw [hC] at hcl
  rw [hC, hn]
  rw [hn] at hlim hcap
  clear hc h hb hn hC
  have HT := Lib.hid (inT_new w nm at_ C ct 24)
  have HB0 : Hid (Below w.heap.size w (w.alloc (.cells #[.string nm, .slice at_ C ct] 24))) := below_alloc1 _ _
  go_enter Tryd.func10, Tryd.ntmps10
  go_wp2_with fail
  generalize w.alloc (.cells #[.string nm, .slice at_ C ct] 24) = V at *
  have HJ1 := Lib.hid (HJ.out.on HB0.out)
  have HX1 := Lib.hid (HX.out.on HB0.out)
  clear HJ HX
  go_loopw [6, 7, 8] (fun lv qv iv wr => ∃ (i : Nat) (p : List Val) (q : Nat), i ≤ C ∧ q ≤ n + 1 ∧ iv = .int .i64 i ∧ qv = .int .i64 q ∧ Hid (RefI cs xs i p q) ∧ Hid (OwnV wr V.heap.size lv p) ∧ Hid (Below V.heap.size V wr)) (fun _ _ iv _ => C - (intOf iv).toNat)
  case atStart => exact ⟨0, [], 0, Nat.zero_le _, Nat.zero_le _, rfl, rfl, ref_start _ _, ownV_nil _ _, Below.refl _ _⟩
  case round =>
    obtain ⟨i, p, q, hi, hq, rfl, rfl, HR, HO, HBw⟩ := hrel
    obtain ⟨t0, t1⟩ := HT.out.on HBw.out
    by_cases hbody : i < C ∧ q < n
    · obtain ⟨hlt, hqn⟩ := hbody
      have hlt2 : (i : Int) < (C : Int) := by omega
      have hqn2 : (q : Int) < (n : Int) := by omega
      have hi1 : i < cs.length := by rw [HC.out]; exact hlt
      obtain ⟨b1, o1, rfl, cn, kc, ky, nl, hci, q0, q1, q2, q3⟩ := ColsIn.get (HJ1.out.on HBw.out) i hi1
      obtain ⟨b0, o0, rfl, _⟩ := HX1.out q (by rw [HN.out]; exact hqn)
      have HXc : Hid (∀ W, Below V.heap.size V W → W.cell? ⟨b0, o0 + q, none⟩ = some (.int .u8 (xs.getD q 0 : Nat))) := fun W hW => by
        obtain ⟨b', o', e', hh⟩ := (HX1.out.on hW) q (by rw [HN.out]; exact hqn)
        cases e'
        exact hh
      have hnx := ref_next hi1 HR.out HXb.out (by rw [HN.out]; exact hqn)
      have hin := (rdOne_in (k := cs[i].k) (ys := xs.drop q) (fun x hx => HXb.out x (List.mem_of_mem_drop hx)) (by rw [List.length_drop, HN.out]; omega)).2
      rw [List.length_drop, HN.out] at hin
      have hroom : ∀ x : Val, (p.length + [x].length) * 40 ≤ 140737488355328 := fun x => by rw [HR.out.1]; simp; omega
      have hg0 : (xs.drop q).getD 0 0 = xs.getD q 0 := by simp [List.getD_eq_getElem?_getD, List.getElem?_drop]
      have hdd : (xs.drop q).drop 1 = xs.drop (q + 1) := by rw [List.drop_drop]
      rw [show cs[i].k = kc by rw [hci]] at hnx hin
      unfold rdOne at hnx hin
      rw [hg0, hdd] at hnx hin
      have hdl : (xs.drop (q + 1)).length = n - (q + 1) := by rw [List.length_drop, HN.out]
      have HPI : Hid (∀ W A, Below V.heap.size V W → A = (if c = q + 1 then (some ⟨b0, o0, none⟩ : Option Addr) else some ⟨b0, o0 + (q + 1), none⟩) → Calls Tryd.prog 22 #[.slice A (n - (q + 1)) (c - (q + 1))] W fun e w' => e = .returned (.tuple #[.int .i64 (rdI (xs.drop (q + 1))).1, .int .i64 (rdI (xs.drop (q + 1))).2.1, .int .i64 (rdI (xs.drop (q + 1))).2.2]) ∧ w' = W) := fun W A hW hA => by
        have := rint_ A (xs.drop (q + 1)) (c - (q + 1)) W (hA ▸ (HX1.out.on hW).cutAt (by rw [HN.out]; exact hcap)) (fun x hx => HXb.out x (List.mem_of_mem_drop hx)) (by omega)
        rw [hdl] at this
        exact this
      have HPT : Hid (∀ W A, Below V.heap.size V W → A = (if c = q + 1 then (some ⟨b0, o0, none⟩ : Option Addr) else some ⟨b0, o0 + (q + 1), none⟩) → Calls Tryd.prog 23 #[.slice A (n - (q + 1)) (c - (q + 1)), .int .i64 4096] W fun e w' => e = .returned (.tuple #[.string (bs (rdT (xs.drop (q + 1)) 4096).1), .int .i64 (rdT (xs.drop (q + 1)) 4096).2.1, .int .i64 (rdT (xs.drop (q + 1)) 4096).2.2]) ∧ w' = W) := fun W A hW hA => by
        have := rtext_ A (xs.drop (q + 1)) (c - (q + 1)) 4096 W (hA ▸ (HX1.out.on hW).cutAt (by rw [HN.out]; exact hcap)) (fun x hx => HXb.out x (List.mem_of_mem_drop hx)) (by omega) (by decide) (by decide) (by omega)
        rw [hdl] at this
        exact this
      have HNb : Hid (0 < (xs.drop (q + 1)).length ∧ (xs.drop (q + 1)).getD 0 0 = 1 → q + 1 < n ∧ xs.getD (q + 1) 0 = 1) := fun hh => by
        rw [hdl] at hh
        refine ⟨by omega, ?_⟩
        have := hh.2
        simpa [List.getD_eq_getElem?_getD, List.getElem?_drop] using this
      have F0 := Lib.hid (fr0_start wr 47)
      have HBa := Lib.hid (below_step HBw.out (below_alloc1 wr (.cells #[.int .i64 0, .int .i64 0, .string ⟨#[]⟩, .bool false] 47)))
      have HO1 := Lib.hid (HO.out.on (below_alloc1 wr (.cells #[.int .i64 0, .int .i64 0, .string ⟨#[]⟩, .bool false] 47)))
      have hs1 : V.heap.size ≤ wr.heap.size := HBw.out.size
      have hcy := HXc.out _ HBa.out
      obtain ⟨t0', t1'⟩ := HT.out.on HBa.out
      have HCa : Hid (InC (wr.alloc (.cells #[.int .i64 0, .int .i64 0, .string ⟨#[]⟩, .bool false] 47)) b1 (o1 + i * 4) ⟨cn, kc, ky, nl⟩) := InC.on ⟨q0, q1, q2, q3⟩ (below_alloc1 _ _)
      obtain ⟨q0', q1', q2', q3'⟩ := HCa.out
      simp only at q0' q1' q2' q3'
      clear q0 q1 q2 q3 HCa
      clear hci hg0 hdd hi1
      by_cases hy : xs.getD q 0 = 1
      · rw [if_pos hy] at hnx hin
        rw [hy] at hcy
        clear hy
        by_cases hk1 : kc = 1
        · subst hk1
          rw [if_pos rfl] at hnx hin
          clear HPT HNb
          obtain ⟨vn, m, E, hR⟩ : ∃ vn m E, rdI (xs.drop (q + 1)) = (vn, m, E) := ⟨_, _, _, rfl⟩
          rw [hR] at HPI hnx hin
          simp only at hin hnx HPI
          have HNX := Lib.hid hnx
          have HP := HPI
          clear hnx hR HPI
          by_cases hcq : c = q + 1
          · obtain rfl : n = q + 1 := by omega
            subst hcq
            have HP2 : Hid (∀ W, Below V.heap.size V W → Calls Tryd.prog 22 #[.slice (some ⟨b0, o0, none⟩) 0 0] W fun e w' => e = .returned (.tuple #[.int .i64 vn, .int .i64 m, .int .i64 E]) ∧ w' = W) := fun W hW => by
              have := HP.out W _ hW rfl
              rw [if_pos rfl, Nat.sub_self] at this
              exact this
            clear HP
            go_wp2_with fail
            refine (HP2.out _ (below_step HBw.out (below_alloc1 _ _))).mono ?_
            rintro e w1 ⟨rfl, rfl⟩
            clear HP2 hcy t0' t1' q0' q1' q2' q3'
            go_wp2_with (first
              | (at_builtin; refine wpList_append_vals2 _ rfl _ _ rfl V.heap.size _ p [⟨1, vn, ⟨#[]⟩, false⟩] rfl (HO.out.on (below_step (by first | exact below_alloc1 _ _ | exact (below_alloc1 _ _).setCell (Nat.le_refl _) _ | exact ((below_alloc1 _ _).setCell (Nat.le_refl _) _).setCell (Nat.le_refl _) _) (below_alloc1 _ _))) _ 0 1 1 rfl rfl (one_inV (v := ⟨1, vn, ⟨#[]⟩, false⟩) (in4_at _ (1) (vn) (⟨#[]⟩) (false) _ _ (by simp))) (hroom _) (below_step (below_step HBw.out (by first | exact below_alloc1 _ _ | exact (below_alloc1 _ _).setCell (Nat.le_refl _) _ | exact ((below_alloc1 _ _).setCell (Nat.le_refl _) _).setCell (Nat.le_refl _) _)) (below_alloc1 _ _)).size ?_
                 intro v2 w2 hown hg hbl
                 have HO2 := Lib.hid hown
                 have HB2 : Hid (Below V.heap.size V w2) := (below_step (below_step HBw.out (by first | exact below_alloc1 _ _ | exact (below_alloc1 _ _).setCell (Nat.le_refl _) _ | exact ((below_alloc1 _ _).setCell (Nat.le_refl _) _).setCell (Nat.le_refl _) _)) (below_alloc1 _ _)).grown hg (below_step (below_step HBw.out (by first | exact below_alloc1 _ _ | exact (below_alloc1 _ _).setCell (Nat.le_refl _) _ | exact ((below_alloc1 _ _).setCell (Nat.le_refl _) _).setCell (Nat.le_refl _) _)) (below_alloc1 _ _)).size (fun j hj => (HO.out.lt j hj).1)
                 clear hown hg hbl)
              | fail)
            go_roundw
            case rel => exact ⟨i + 1, p ++ [⟨1, vn, ⟨#[]⟩, false⟩], q + (1 + m), by omega, by omega, by go_num, congrArg (Value.int .i64) (by omega), HNX, HO2, HB2⟩
            case measure => simp [intOf]; omega
          · have hcq2 : ¬ (c : Int) = (q : Int) + 1 := by omega
            have hcq3 : (q : Int) + 1 ≤ (n : Int) := by omega
            have hcq4 : (q : Int) + 1 ≤ (c : Int) := by omega
            have HP2 : Hid (∀ W, Below V.heap.size V W → Calls Tryd.prog 22 #[.slice (some ⟨b0, o0 + (q + 1), none⟩) (n - (q + 1)) (c - (q + 1))] W fun e w' => e = .returned (.tuple #[.int .i64 vn, .int .i64 m, .int .i64 E]) ∧ w' = W) := fun W hW => HP.out W _ hW (by rw [if_neg hcq])
            clear HP
            go_wp2_with fail
            refine (HP2.out _ (below_step HBw.out (below_alloc1 _ _))).mono ?_
            rintro e w1 ⟨rfl, rfl⟩
            clear HP2 hcy t0' t1' q0' q1' q2' q3'
            go_wp2_with (first
              | (at_builtin; refine wpList_append_vals2 _ rfl _ _ rfl V.heap.size _ p [⟨1, vn, ⟨#[]⟩, false⟩] rfl (HO.out.on (below_step (by first | exact below_alloc1 _ _ | exact (below_alloc1 _ _).setCell (Nat.le_refl _) _ | exact ((below_alloc1 _ _).setCell (Nat.le_refl _) _).setCell (Nat.le_refl _) _) (below_alloc1 _ _))) _ 0 1 1 rfl rfl (one_inV (v := ⟨1, vn, ⟨#[]⟩, false⟩) (in4_at _ (1) (vn) (⟨#[]⟩) (false) _ _ (by simp))) (hroom _) (below_step (below_step HBw.out (by first | exact below_alloc1 _ _ | exact (below_alloc1 _ _).setCell (Nat.le_refl _) _ | exact ((below_alloc1 _ _).setCell (Nat.le_refl _) _).setCell (Nat.le_refl _) _)) (below_alloc1 _ _)).size ?_
                 intro v2 w2 hown hg hbl
                 have HO2 := Lib.hid hown
                 have HB2 : Hid (Below V.heap.size V w2) := (below_step (below_step HBw.out (by first | exact below_alloc1 _ _ | exact (below_alloc1 _ _).setCell (Nat.le_refl _) _ | exact ((below_alloc1 _ _).setCell (Nat.le_refl _) _).setCell (Nat.le_refl _) _)) (below_alloc1 _ _)).grown hg (below_step (below_step HBw.out (by first | exact below_alloc1 _ _ | exact (below_alloc1 _ _).setCell (Nat.le_refl _) _ | exact ((below_alloc1 _ _).setCell (Nat.le_refl _) _).setCell (Nat.le_refl _) _)) (below_alloc1 _ _)).size (fun j hj => (HO.out.lt j hj).1)
                 clear hown hg hbl)
              | fail)
            go_roundw
            case rel => exact ⟨i + 1, p ++ [⟨1, vn, ⟨#[]⟩, false⟩], q + (1 + m), by omega, by omega, by go_num, congrArg (Value.int .i64) (by omega), HNX, HO2, HB2⟩
            case measure => simp [intOf]; omega
        rw [if_neg hk1] at hnx hin
        by_cases hk2 : kc = 2
        · subst hk2
          rw [if_pos rfl] at hnx hin
          clear HPI HNb
          obtain ⟨vl, m, E, hR⟩ : ∃ vl m E, rdT (xs.drop (q + 1)) 4096 = (vl, m, E) := ⟨_, _, _, rfl⟩
          rw [hR] at HPT hnx hin
          simp only at hin hnx HPT
          generalize bs vl = vt at *
          have HNX := Lib.hid hnx
          have HP := HPT
          clear hnx hR HPT
          by_cases hcq : c = q + 1
          · obtain rfl : n = q + 1 := by omega
            subst hcq
            have HP2 : Hid (∀ W, Below V.heap.size V W → Calls Tryd.prog 23 #[.slice (some ⟨b0, o0, none⟩) 0 0, .int .i64 4096] W fun e w' => e = .returned (.tuple #[.string vt, .int .i64 m, .int .i64 E]) ∧ w' = W) := fun W hW => by
              have := HP.out W _ hW rfl
              rw [if_pos rfl, Nat.sub_self] at this
              exact this
            clear HP
            go_wp2_with fail
            refine (HP2.out _ (below_step HBw.out (below_alloc1 _ _))).mono ?_
            rintro e w1 ⟨rfl, rfl⟩
            clear HP2 hcy t0' t1' q0' q1' q2' q3'
            go_wp2_with (first
              | (at_builtin; refine wpList_append_vals2 _ rfl _ _ rfl V.heap.size _ p [⟨2, 0, vt, false⟩] rfl (HO.out.on (below_step (by first | exact below_alloc1 _ _ | exact (below_alloc1 _ _).setCell (Nat.le_refl _) _ | exact ((below_alloc1 _ _).setCell (Nat.le_refl _) _).setCell (Nat.le_refl _) _) (below_alloc1 _ _))) _ 0 1 1 rfl rfl (one_inV (v := ⟨2, 0, vt, false⟩) (in4_at _ (2) (0) (vt) (false) _ _ (by simp))) (hroom _) (below_step (below_step HBw.out (by first | exact below_alloc1 _ _ | exact (below_alloc1 _ _).setCell (Nat.le_refl _) _ | exact ((below_alloc1 _ _).setCell (Nat.le_refl _) _).setCell (Nat.le_refl _) _)) (below_alloc1 _ _)).size ?_
                 intro v2 w2 hown hg hbl
                 have HO2 := Lib.hid hown
                 have HB2 : Hid (Below V.heap.size V w2) := (below_step (below_step HBw.out (by first | exact below_alloc1 _ _ | exact (below_alloc1 _ _).setCell (Nat.le_refl _) _ | exact ((below_alloc1 _ _).setCell (Nat.le_refl _) _).setCell (Nat.le_refl _) _)) (below_alloc1 _ _)).grown hg (below_step (below_step HBw.out (by first | exact below_alloc1 _ _ | exact (below_alloc1 _ _).setCell (Nat.le_refl _) _ | exact ((below_alloc1 _ _).setCell (Nat.le_refl _) _).setCell (Nat.le_refl _) _)) (below_alloc1 _ _)).size (fun j hj => (HO.out.lt j hj).1)
                 clear hown hg hbl)
              | fail)
            go_roundw
            case rel => exact ⟨i + 1, p ++ [⟨2, 0, vt, false⟩], q + (1 + m), by omega, by omega, by go_num, congrArg (Value.int .i64) (by omega), HNX, HO2, HB2⟩
            case measure => simp [intOf]; omega
          · have hcq2 : ¬ (c : Int) = (q : Int) + 1 := by omega
            have hcq3 : (q : Int) + 1 ≤ (n : Int) := by omega
            have hcq4 : (q : Int) + 1 ≤ (c : Int) := by omega
            have HP2 : Hid (∀ W, Below V.heap.size V W → Calls Tryd.prog 23 #[.slice (some ⟨b0, o0 + (q + 1), none⟩) (n - (q + 1)) (c - (q + 1)), .int .i64 4096] W fun e w' => e = .returned (.tuple #[.string vt, .int .i64 m, .int .i64 E]) ∧ w' = W) := fun W hW => HP.out W _ hW (by rw [if_neg hcq])
            clear HP
            go_wp2_with fail
            refine (HP2.out _ (below_step HBw.out (below_alloc1 _ _))).mono ?_
            rintro e w1 ⟨rfl, rfl⟩
            clear HP2 hcy t0' t1' q0' q1' q2' q3'
            go_wp2_with (first
              | (at_builtin; refine wpList_append_vals2 _ rfl _ _ rfl V.heap.size _ p [⟨2, 0, vt, false⟩] rfl (HO.out.on (below_step (by first | exact below_alloc1 _ _ | exact (below_alloc1 _ _).setCell (Nat.le_refl _) _ | exact ((below_alloc1 _ _).setCell (Nat.le_refl _) _).setCell (Nat.le_refl _) _) (below_alloc1 _ _))) _ 0 1 1 rfl rfl (one_inV (v := ⟨2, 0, vt, false⟩) (in4_at _ (2) (0) (vt) (false) _ _ (by simp))) (hroom _) (below_step (below_step HBw.out (by first | exact below_alloc1 _ _ | exact (below_alloc1 _ _).setCell (Nat.le_refl _) _ | exact ((below_alloc1 _ _).setCell (Nat.le_refl _) _).setCell (Nat.le_refl _) _)) (below_alloc1 _ _)).size ?_
                 intro v2 w2 hown hg hbl
                 have HO2 := Lib.hid hown
                 have HB2 : Hid (Below V.heap.size V w2) := (below_step (below_step HBw.out (by first | exact below_alloc1 _ _ | exact (below_alloc1 _ _).setCell (Nat.le_refl _) _ | exact ((below_alloc1 _ _).setCell (Nat.le_refl _) _).setCell (Nat.le_refl _) _)) (below_alloc1 _ _)).grown hg (below_step (below_step HBw.out (by first | exact below_alloc1 _ _ | exact (below_alloc1 _ _).setCell (Nat.le_refl _) _ | exact ((below_alloc1 _ _).setCell (Nat.le_refl _) _).setCell (Nat.le_refl _) _)) (below_alloc1 _ _)).size (fun j hj => (HO.out.lt j hj).1)
                 clear hown hg hbl)
              | fail)
            go_roundw
            case rel => exact ⟨i + 1, p ++ [⟨2, 0, vt, false⟩], q + (1 + m), by omega, by omega, by go_num, congrArg (Value.int .i64) (by omega), HNX, HO2, HB2⟩
            case measure => simp [intOf]; omega
        rw [if_neg hk2] at hnx hin
        clear HPI HPT
        by_cases hk3 : kc = 3
        · subst hk3
          rw [if_pos rfl] at hnx hin
          by_cases hq1 : q + 1 < n
          · have hq2 : (q : Int) + 1 < (n : Int) := by omega
            obtain ⟨b', o', e', hcz⟩ := HX1.out (q + 1) (by rw [HN.out]; exact hq1)
            cases e'
            have hcz' : ∀ obj, (wr.alloc obj).cell? ⟨b0, o0 + (q + 1), none⟩ = some (.int .u8 (xs.getD (q + 1) 0 : Nat)) := fun obj => ((below_step HBw.out (below_alloc1 wr obj)).cell (block_lt_of_cell hcz)).trans hcz
            by_cases hz : xs.getD (q + 1) 0 = 1
            · have hd : decide (0 < (xs.drop (q + 1)).length ∧ (xs.drop (q + 1)).getD 0 0 = 1) = true := by
                rw [decide_eq_true_iff]
                exact ⟨by rw [hdl]; omega, by simpa [List.getD_eq_getElem?_getD, List.getElem?_drop] using hz⟩
              rw [hd] at hnx
              rw [hz] at hcz'
              have HNX := Lib.hid hnx
              clear hnx hd hz hcz HNb hdl
              go_wp2_with (first
                | (at_builtin; refine wpList_append_vals2 _ rfl _ _ rfl V.heap.size _ p [⟨3, 0, ⟨#[]⟩, true⟩] rfl (HO.out.on (below_step (by first | exact below_alloc1 _ _ | exact (below_alloc1 _ _).setCell (Nat.le_refl _) _ | exact ((below_alloc1 _ _).setCell (Nat.le_refl _) _).setCell (Nat.le_refl _) _) (below_alloc1 _ _))) _ 0 1 1 rfl rfl (one_inV (v := ⟨3, 0, ⟨#[]⟩, true⟩) (in4_at _ (3) (0) (⟨#[]⟩) (true) _ _ (by simp))) (hroom _) (below_step (below_step HBw.out (by first | exact below_alloc1 _ _ | exact (below_alloc1 _ _).setCell (Nat.le_refl _) _ | exact ((below_alloc1 _ _).setCell (Nat.le_refl _) _).setCell (Nat.le_refl _) _)) (below_alloc1 _ _)).size ?_
                   intro v2 w2 hown hg hbl
                   have HO2 := Lib.hid hown
                   have HB2 : Hid (Below V.heap.size V w2) := (below_step (below_step HBw.out (by first | exact below_alloc1 _ _ | exact (below_alloc1 _ _).setCell (Nat.le_refl _) _ | exact ((below_alloc1 _ _).setCell (Nat.le_refl _) _).setCell (Nat.le_refl _) _)) (below_alloc1 _ _)).grown hg (below_step (below_step HBw.out (by first | exact below_alloc1 _ _ | exact (below_alloc1 _ _).setCell (Nat.le_refl _) _ | exact ((below_alloc1 _ _).setCell (Nat.le_refl _) _).setCell (Nat.le_refl _) _)) (below_alloc1 _ _)).size (fun j hj => (HO.out.lt j hj).1)
                   clear hown hg hbl)
                | fail)
              go_roundw
              case rel => exact ⟨i + 1, p ++ [⟨3, 0, ⟨#[]⟩, true⟩], q + (2), by omega, by omega, by go_num, congrArg (Value.int .i64) (by omega), HNX, HO2, HB2⟩
              case measure => simp [intOf]; omega
            · have hd : decide (0 < (xs.drop (q + 1)).length ∧ (xs.drop (q + 1)).getD 0 0 = 1) = false := by
                rw [decide_eq_false_iff_not]
                intro hh
                exact hz (HNb.out hh).2
              rw [hd] at hnx
              have HNX := Lib.hid hnx
              generalize xs.getD (q + 1) 0 = z at *
              have hz2 : ((z : Int) == 1) = false := by rw [beq_eq_false_iff_ne]; omega
              clear hnx hd hz hcz HNb hdl
              go_wp2_with (first
                | (at_builtin; refine wpList_append_vals2 _ rfl _ _ rfl V.heap.size _ p [⟨3, 0, ⟨#[]⟩, false⟩] rfl (HO.out.on (below_step (by first | exact below_alloc1 _ _ | exact (below_alloc1 _ _).setCell (Nat.le_refl _) _ | exact ((below_alloc1 _ _).setCell (Nat.le_refl _) _).setCell (Nat.le_refl _) _) (below_alloc1 _ _))) _ 0 1 1 rfl rfl (one_inV (v := ⟨3, 0, ⟨#[]⟩, false⟩) (in4_at _ (3) (0) (⟨#[]⟩) (false) _ _ (by simp))) (hroom _) (below_step (below_step HBw.out (by first | exact below_alloc1 _ _ | exact (below_alloc1 _ _).setCell (Nat.le_refl _) _ | exact ((below_alloc1 _ _).setCell (Nat.le_refl _) _).setCell (Nat.le_refl _) _)) (below_alloc1 _ _)).size ?_
                   intro v2 w2 hown hg hbl
                   have HO2 := Lib.hid hown
                   have HB2 : Hid (Below V.heap.size V w2) := (below_step (below_step HBw.out (by first | exact below_alloc1 _ _ | exact (below_alloc1 _ _).setCell (Nat.le_refl _) _ | exact ((below_alloc1 _ _).setCell (Nat.le_refl _) _).setCell (Nat.le_refl _) _)) (below_alloc1 _ _)).grown hg (below_step (below_step HBw.out (by first | exact below_alloc1 _ _ | exact (below_alloc1 _ _).setCell (Nat.le_refl _) _ | exact ((below_alloc1 _ _).setCell (Nat.le_refl _) _).setCell (Nat.le_refl _) _)) (below_alloc1 _ _)).size (fun j hj => (HO.out.lt j hj).1)
                   clear hown hg hbl)
                | fail)
              go_roundw
              case rel => exact ⟨i + 1, p ++ [⟨3, 0, ⟨#[]⟩, false⟩], q + (2), by omega, by omega, by go_num, congrArg (Value.int .i64) (by omega), HNX, HO2, HB2⟩
              case measure => simp [intOf]; omega
          · have hq2 : ¬ (q : Int) + 1 < (n : Int) := by omega
            have hd : decide (0 < (xs.drop (q + 1)).length ∧ (xs.drop (q + 1)).getD 0 0 = 1) = false := by
              rw [decide_eq_false_iff_not]
              intro hh
              exact hq1 (HNb.out hh).1
            rw [hd] at hnx
            have HNX := Lib.hid hnx
            clear hnx hd HNb hdl
            go_wp2_with (first
              | (at_builtin; refine wpList_append_vals2 _ rfl _ _ rfl V.heap.size _ p [⟨3, 0, ⟨#[]⟩, false⟩] rfl (HO.out.on (below_step (by first | exact below_alloc1 _ _ | exact (below_alloc1 _ _).setCell (Nat.le_refl _) _ | exact ((below_alloc1 _ _).setCell (Nat.le_refl _) _).setCell (Nat.le_refl _) _) (below_alloc1 _ _))) _ 0 1 1 rfl rfl (one_inV (v := ⟨3, 0, ⟨#[]⟩, false⟩) (in4_at _ (3) (0) (⟨#[]⟩) (false) _ _ (by simp))) (hroom _) (below_step (below_step HBw.out (by first | exact below_alloc1 _ _ | exact (below_alloc1 _ _).setCell (Nat.le_refl _) _ | exact ((below_alloc1 _ _).setCell (Nat.le_refl _) _).setCell (Nat.le_refl _) _)) (below_alloc1 _ _)).size ?_
                 intro v2 w2 hown hg hbl
                 have HO2 := Lib.hid hown
                 have HB2 : Hid (Below V.heap.size V w2) := (below_step (below_step HBw.out (by first | exact below_alloc1 _ _ | exact (below_alloc1 _ _).setCell (Nat.le_refl _) _ | exact ((below_alloc1 _ _).setCell (Nat.le_refl _) _).setCell (Nat.le_refl _) _)) (below_alloc1 _ _)).grown hg (below_step (below_step HBw.out (by first | exact below_alloc1 _ _ | exact (below_alloc1 _ _).setCell (Nat.le_refl _) _ | exact ((below_alloc1 _ _).setCell (Nat.le_refl _) _).setCell (Nat.le_refl _) _)) (below_alloc1 _ _)).size (fun j hj => (HO.out.lt j hj).1)
                 clear hown hg hbl)
              | fail)
            go_roundw
            case rel => exact ⟨i + 1, p ++ [⟨3, 0, ⟨#[]⟩, false⟩], q + (2), by omega, by omega, by go_num, congrArg (Value.int .i64) (by omega), HNX, HO2, HB2⟩
            case measure => simp [intOf]; omega
        rw [if_neg hk3] at hnx hin
        have HNX := Lib.hid hnx
        have g1 : (kc == 1) = false := by simpa using hk1
        have g2 : (kc == 2) = false := by simpa using hk2
        have g3 : (kc == 3) = false := by simpa using hk3
        clear hnx HNb
        go_wp2_with (first
          | (at_builtin; refine wpList_append_vals2 _ rfl _ _ rfl V.heap.size _ p [⟨kc, 0, ⟨#[]⟩, false⟩] rfl (HO.out.on (below_step (by first | exact below_alloc1 _ _ | exact (below_alloc1 _ _).setCell (Nat.le_refl _) _ | exact ((below_alloc1 _ _).setCell (Nat.le_refl _) _).setCell (Nat.le_refl _) _) (below_alloc1 _ _))) _ 0 1 1 rfl rfl (one_inV (v := ⟨kc, 0, ⟨#[]⟩, false⟩) (in4_at _ (kc) (0) (⟨#[]⟩) (false) _ _ (by simp))) (hroom _) (below_step (below_step HBw.out (by first | exact below_alloc1 _ _ | exact (below_alloc1 _ _).setCell (Nat.le_refl _) _ | exact ((below_alloc1 _ _).setCell (Nat.le_refl _) _).setCell (Nat.le_refl _) _)) (below_alloc1 _ _)).size ?_
             intro v2 w2 hown hg hbl
             have HO2 := Lib.hid hown
             have HB2 : Hid (Below V.heap.size V w2) := (below_step (below_step HBw.out (by first | exact below_alloc1 _ _ | exact (below_alloc1 _ _).setCell (Nat.le_refl _) _ | exact ((below_alloc1 _ _).setCell (Nat.le_refl _) _).setCell (Nat.le_refl _) _)) (below_alloc1 _ _)).grown hg (below_step (below_step HBw.out (by first | exact below_alloc1 _ _ | exact (below_alloc1 _ _).setCell (Nat.le_refl _) _ | exact ((below_alloc1 _ _).setCell (Nat.le_refl _) _).setCell (Nat.le_refl _) _)) (below_alloc1 _ _)).size (fun j hj => (HO.out.lt j hj).1)
             clear hown hg hbl)
          | fail)
        go_roundw
        case rel => exact ⟨i + 1, p ++ [⟨kc, 0, ⟨#[]⟩, false⟩], q + (1), by omega, by omega, by go_num, congrArg (Value.int .i64) (by omega), HNX, HO2, HB2⟩
        case measure => simp [intOf]; omega
      · rw [if_neg hy] at hnx hin
        have hy2 : (((xs.getD q 0 : Nat) : Int) == 1) = false := by rw [beq_eq_false_iff_ne]; omega
        have HNX := Lib.hid hnx
        clear hnx hin hy HPI HPT HNb
        generalize xs.getD q 0 = y at *
        go_wp2_with (first
          | (at_builtin; refine wpList_append_vals2 _ rfl _ _ rfl V.heap.size _ p [⟨0, 0, ⟨#[]⟩, false⟩] rfl (HO.out.on (below_step (by first | exact below_alloc1 _ _ | exact (below_alloc1 _ _).setCell (Nat.le_refl _) _ | exact ((below_alloc1 _ _).setCell (Nat.le_refl _) _).setCell (Nat.le_refl _) _) (below_alloc1 _ _))) _ 0 1 1 rfl rfl (one_inV (v := ⟨0, 0, ⟨#[]⟩, false⟩) (in4_at _ (0) (0) (⟨#[]⟩) (false) _ _ (by simp))) (hroom _) (below_step (below_step HBw.out (by first | exact below_alloc1 _ _ | exact (below_alloc1 _ _).setCell (Nat.le_refl _) _ | exact ((below_alloc1 _ _).setCell (Nat.le_refl _) _).setCell (Nat.le_refl _) _)) (below_alloc1 _ _)).size ?_
             intro v2 w2 hown hg hbl
             have HO2 := Lib.hid hown
             have HB2 : Hid (Below V.heap.size V w2) := (below_step (below_step HBw.out (by first | exact below_alloc1 _ _ | exact (below_alloc1 _ _).setCell (Nat.le_refl _) _ | exact ((below_alloc1 _ _).setCell (Nat.le_refl _) _).setCell (Nat.le_refl _) _)) (below_alloc1 _ _)).grown hg (below_step (below_step HBw.out (by first | exact below_alloc1 _ _ | exact (below_alloc1 _ _).setCell (Nat.le_refl _) _ | exact ((below_alloc1 _ _).setCell (Nat.le_refl _) _).setCell (Nat.le_refl _) _)) (below_alloc1 _ _)).size (fun j hj => (HO.out.lt j hj).1)
             clear hown hg hbl)
          | fail)
        go_roundw
        case rel => exact ⟨i + 1, p ++ [vZ], q + (1), by omega, by omega, by go_num, congrArg (Value.int .i64) (by omega), HNX, HO2, HB2⟩
        case measure => simp [intOf]; omega
    · have hstop : i < C → n ≤ q := fun h => by omega
      have HRs : Hid (chkR cs p ≠ 0 ∨ rowB p ≠ xs → ∀ l, ¬ IsRow cs xs l) := fun hh => ref_stop HR.out (by rw [HC.out]; exact hi) (fun h => by rw [HN.out]; exact hstop (by rw [← HC.out]; exact h)) hh
      have HRo : Hid (chkR cs p = 0 → rowB p = xs → IsRow cs xs p) := fun h1 h2 => ref_ok HR.out h1 h2
      obtain ⟨a', c', rfl, hvin, _⟩ := HO.out.vals
      have hpl := HR.out.1
      have HEn : Hid (∀ W, Below wr.heap.size wr W → Calls Tryd.prog 8 #[.agg #[.string nm, .slice at_ C ct], .slice a' i c'] W (DEncTo W cs p)) := fun W hW => by
        have := dencode_ nm at_ ct cs a' c' p W ((HJ1.out.on HBw.out).on hW) (hvin.on hW) HR.out.2.1 (by rw [HC.out]; exact hcl) (by rw [hpl]; omega)
        rw [HC.out, hpl] at this
        exact this
      have HPL := Lib.hid hpl
      have HVI := Lib.hid hvin
      have HXw := Lib.hid (HX1.out.on HBw.out)
      have HBz := Lib.hid (below_step HB0.out HBw.out)
      rw [hpl]
      clear hpl hvin HO HR HJ1
      have hcond : ((i : Int) < (C : Int) ∧ ¬ (q : Int) < (n : Int)) ∨ ¬ (i : Int) < (C : Int) := by omega
      rcases hcond with ⟨hc1, hc2⟩ | hc1
      all_goals
        clear hstop hbody
        go_wp2_with fail
        refine (HEn.out _ (Below.refl _ _)).mono ?_
        rintro e w1 ⟨ev, rfl, ho1, hb1⟩
        by_cases hz : chkR cs p = 0
        · rw [if_pos hz] at ho1
          obtain ⟨a1, c1, rfl, hin1, _⟩ := ho1.bytes
          have hcv1 := conv_ w1 a1 (rowB p).length c1 (rowB p) rfl hin1
          have hcv2 := conv_ w1 a n c xs HN.out.symm (HXw.out.on hb1)
          have HB1 := Lib.hid hb1
          rw [hz]
          generalize (rowB p).length = l1 at *
          by_cases he : rowB p = xs
          · have HRow := Lib.hid (HRo.out hz he)
            have hst : ((bs (rowB p)).toList == (bs xs).toList) = true := by rw [he]; simp
            generalize bs (rowB p) = SP at *
            generalize bs xs = SX at *
            clear ho1 hin1 hb1 hz he HRs HRo HEn
            go_wp2_with fail
            exact bodyPost_ret (v := .tuple #[.slice a' i c', .int .i64 0]) (by simp [results, Tryd.results10, go_sem]) rfl ⟨.inl ⟨p, a', c', HRow.out, by rw [HPL.out], HVI.out.on HB1.out⟩, below_step HBz.out HB1.out⟩
          · have HNo := Lib.hid (HRs.out (.inr he))
            have hst : ((bs (rowB p)).toList == (bs xs).toList) = false := by
              rw [beq_eq_false_iff_ne]
              intro hh
              exact he (bs_inj (rowB_byte p) HXb.out (toList_inj hh))
            generalize bs (rowB p) = SP at *
            generalize bs xs = SX at *
            clear ho1 hin1 hb1 hz he HRs HRo HEn
            go_wp2_with fail
            exact bodyPost_ret (v := .tuple #[.slice none 0 0, .int .i64 3]) (by simp [results, Tryd.results10, go_sem]) rfl ⟨.inr ⟨HNo.out, rfl⟩, below_step HBz.out HB1.out⟩
        · have HNo := Lib.hid (HRs.out (.inl hz))
          have hz2 : (chkR cs p != 0) = true := by simpa using hz
          have HB1 := Lib.hid hb1
          generalize chkR cs p = E at *
          clear ho1 hb1 hz HRs HRo HEn
          go_wp2_with fail
          exact bodyPost_ret (v := .tuple #[.slice none 0 0, .int .i64 3]) (by simp [results, Tryd.results10, go_sem]) rfl ⟨.inr ⟨HNo.out, rfl⟩, below_step HBz.out HB1.out⟩
end Go.Proofs.YtlldamgnfaikhaaDoor
