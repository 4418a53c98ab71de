/- The walk of CursorRanges. -/
import Derived.Test.YteeojhmdefhlmaaCuSure
import Derived.Test.YteeojhmdefhlmaaCuRHex
import Derived.Test.YteeojhmdefhlmaaCuRMeet2
import Derived.Test.YteeojhmdefhlmaaCuEq
namespace Go.Proofs.Yteeojhmdefhlmaa
open Go.RowKit Go.Sort

set_option maxRecDepth 100000 in
set_option maxHeartbeats 4000000 in
theorem ranges_walk (a b : Rg) (k : ByteArray) (w : World) (haf : a.f.size ≤ 1048576) (hat : a.t.size ≤ 1048576) (hk : k.size ≤ 1048576) :
    Calls Try.prog 3 #[rgV a, rgV b, .string k] w fun e w' => e = .returned (.bool true) ∧ Below w.heap.size w w' := by
  obtain ⟨u, hu⟩ : ∃ u, u = hasR a k := ⟨_, rfl⟩
  obtain ⟨em, hem⟩ : ∃ e, e = empR a := ⟨_, rfl⟩
  obtain ⟨T1, hT1⟩ : ∃ e, e = tellR a := ⟨_, rfl⟩
  obtain ⟨M1, hM1⟩ : ∃ m, m = meetR a b := ⟨_, rfl⟩
  obtain ⟨P1, hP1⟩ : ∃ m, m = pfxR k := ⟨_, rfl⟩
  have HA : Hid (∀ W, Calls Try.prog 7 #[rgV a, .string k] W fun e w' => e = .returned (.bool u) ∧ Below W.heap.size W w') := fun W => by rw [hu]; exact has_ a k W
  have HRA : Hid (∀ W, Calls Try.prog 8 #[rgV a, .string k] W fun e w' => e = .returned (.bool u) ∧ Below W.heap.size W w') := fun W => by rw [hu]; exact rhas_ a k W
  have HE : Hid (∀ W, Calls Try.prog 9 #[rgV a] W fun e w' => e = .returned (.bool em) ∧ Below W.heap.size W w') := fun W => by rw [hem]; exact emp_ a W
  have HRE : Hid (∀ W, Calls Try.prog 10 #[rgV a] W fun e w' => e = .returned (.bool em) ∧ Below W.heap.size W w') := fun W => by rw [hem]; exact rempty_ a W
  have HT : Hid (∀ W, Calls Try.prog 11 #[rgV a] W fun e w' => e = .returned (.string T1) ∧ Below W.heap.size W w') := fun W => by rw [hT1]; exact text_ a W (by omega)
  have HRT : Hid (∀ W, Calls Try.prog 12 #[rgV a] W fun e w' => e = .returned (.string T1) ∧ Below W.heap.size W w') := fun W => by rw [hT1]; exact rtext_ a W haf hat
  have C1 : Hid (∀ W, Calls Try.prog 13 #[rgV a, rgV b] W fun e w' => e = .returned (rgV M1) ∧ Below W.heap.size W w') := fun W => by rw [hM1]; exact meet_ a b W
  have C2 : Hid (∀ W, Calls Try.prog 14 #[rgV a, rgV b] W fun e w' => e = .returned (rgV M1) ∧ Below W.heap.size W w') := fun W => by rw [hM1]; exact rmeet_ a b W
  have C3 : Hid (∀ W, Calls Try.prog 15 #[.string k] W fun e w' => e = .returned (rgV P1) ∧ Below W.heap.size W w') := fun W => by rw [hP1]; exact pfx_ k W (by omega)
  have C4 : Hid (∀ W, Calls Try.prog 16 #[.string k] W fun e w' => e = .returned (rgV P1) ∧ Below W.heap.size W w') := fun W => by rw [hP1]; exact rpfx_ k W (by omega)
  have C5 : Hid (∀ W, Calls Try.prog 17 #[.string k] W fun e w' => e = .returned (rgV (oneR k)) ∧ Below W.heap.size W w') := fun W => one_ k W
  have C6 : Hid (∀ W, Calls Try.prog 18 #[] W fun e w' => e = .returned (.bool true) ∧ Below W.heap.size W w') := fun W => sure_ W
  clear hu hem hT1 hM1 hP1 haf hat hk
  obtain ⟨W0, hW0⟩ : ∃ W0, W0 = (w.alloc (.cells #[.string a.f, .string a.t, .bool a.hf, .bool a.ht, .bool a.pf, .bool a.pt] 23)).alloc (.cells #[.string b.f, .string b.t, .bool b.hf, .bool b.ht, .bool b.pf, .bool b.pt] 23) := ⟨_, rfl⟩
  unfold rgV at *
  dsimp only [oneR] at *
  go_enter Try.func3, Try.ntmps3
  go_upto_region 1 with fail
  rw [← hW0]
  have HT0 : Hid (Two W0 w.heap.size a b W0) := by
    rw [hW0]
    refine ⟨(rgAt_new w a 23).on (below_alloc _ _) (by simp [go_sem]), ?_, Below.refl _ _⟩
    have := rgAt_new (w.alloc (.cells #[.string a.f, .string a.t, .bool a.hf, .bool a.ht, .bool a.pf, .bool a.pt] 23)) b 23
    simpa [go_sem] using this
  have HBW : Hid (Below w.heap.size w W0) := by show Below _ _ _; rw [hW0]; exact below_two w _ _
  have HN : Hid (w.heap.size + 1 < W0.heap.size ∧ True) := ⟨by rw [hW0]; simp [go_sem], trivial⟩
  generalize hn : w.heap.size = n at *
  have HNn := Lib.hid hn
  clear hW0 hn
  go_cut [7, 8] from 11 to 12 (fun p3 p4 wx => ∃ p q, p3 = .pointer (some ⟨p, 0, none⟩) ∧ p4 = .pointer (some ⟨q, 0, none⟩) ∧ Hid (Below W0.heap.size W0 wx ∧ RgAt wx p a ∧ RgAt wx q b))
  case first =>
    have HTD : Hid (Two W0 n a b W0.drew) := HT0.out.on HN.out.1 (below_drew W0)
    have FA : Hid (∀ V, Two W0 n a b V → RgAt V n a) := fun V h => h.1
    have FB : Hid (∀ V, Two W0 n a b V → RgAt V (n + 1) b) := fun V h => h.2.1
    unfold RgAt at FA FB
    refine wp_region_noPanic ?_
    refine region_ph (A := (Two W0 n a b)) (e1 := 9999) (B := fun _ => True) (e2 := 9999) (C := fun _ => True) (by kernel_rfl) ⟨HTD.out, fun _ => trivial, fun _ => trivial⟩ (fun hSt => ?_)
    have hA := hSt.1
    refine take_ph 0 (.agg #[.string a.f, .string a.t, .bool a.hf, .bool a.ht, .bool a.pf, .bool a.pt]) [] rfl (by kernel_rfl) (fun _ _ _ h => h) (Or.inl ⟨by rfl, ?_⟩) hSt (fun hSn => ?_)
    · rintro V ⟨hh, _, _⟩; have e0 := FA.out V hh; clear hh; go_simp
    clear hSt; rename Ph _ _ _ _ _ _ _ => hSt
    simp only [Act.put, List.setIfInBounds_toArray, List.set_cons_zero, List.set_cons_succ]
    refine take_ph 1 (.agg #[.string b.f, .string b.t, .bool b.hf, .bool b.ht, .bool b.pf, .bool b.pt]) [] rfl (by kernel_rfl) (fun _ _ _ h => h) (Or.inl ⟨by rfl, ?_⟩) hSt (fun hSn => ?_)
    · rintro V ⟨hh, _, _⟩; have e0 := FB.out V hh; clear hh; go_simp
    clear hSt; rename Ph _ _ _ _ _ _ _ => hSt
    simp only [Act.put, List.setIfInBounds_toArray, List.set_cons_zero, List.set_cons_succ]
    clear hSt
    refine ready_all [2, 3] (by kernel_rfl) rfl (steps_cons ?_ (steps_cons ?_ (steps_nil)))
    · refine step_alloc 2 rfl rfl 24 rfl #[.string ⟨#[]⟩, .string ⟨#[]⟩, .bool false, .bool false, .bool false, .bool false] rfl (fun pp V' zp hb hp => ⟨⟨hA.on HN.out.1 hb, fun _ => trivial, fun _ => trivial⟩, ?_⟩)
      simp only [Act.put, List.setIfInBounds_toArray, List.set_cons_zero, List.set_cons_succ]
      have lp := Nat.le_trans hA.2.2.size hp
      clear hp
      have hAn := hA.on HN.out.1 hb; clear hA; have hA := hAn; clear hAn
      clear hb
      refine ready_all [3] (by kernel_rfl) rfl (steps_cons ?_ (steps_nil))
      refine step_alloc 3 rfl rfl 24 rfl #[.string ⟨#[]⟩, .string ⟨#[]⟩, .bool false, .bool false, .bool false, .bool false] rfl (fun pq V' zq hb hp => ⟨⟨hA.on HN.out.1 hb, fun _ => trivial, fun _ => trivial⟩, ?_⟩)
      simp only [Act.put, List.setIfInBounds_toArray, List.set_cons_zero, List.set_cons_succ]
      have lq := Nat.le_trans hA.2.2.size hp
      have npq : Hid (pp ≠ pq) := fun e => by have := blk_lt zp; omega
      clear hp
      have hAn := hA.on HN.out.1 hb; clear hA; have hA := hAn; clear hAn
      have zn := blkKeep hb zp; clear zp; have zp := zn; clear zn
      clear hb
      refine ready_all [4] (by kernel_rfl) rfl (steps_cons ?_ (steps_nil))
      obtain ⟨V', hst, hE, hBs, hoth, _⟩ := store_rg a zp rfl lp hA.2.2
      have hAn := hA.st HN.out.1 lp hoth hBs
      have zn := (hoth pq (fun e => npq.out e.symm)).trans zq; clear zq; have zq := zn; clear zn zp
      refine step_store 4 rfl rfl 24 _ _ rfl _ _ rfl rfl hst ⟨hAn, fun _ => trivial, fun _ => trivial⟩ ?_
      simp only [Act.put]
      clear hA hst; have hA := hAn; clear hAn
      refine ready_all [5] (by kernel_rfl) rfl (steps_cons ?_ (steps_nil))
      obtain ⟨V', hst, hF, hBs, hoth, _⟩ := store_rg b zq rfl lq hA.2.2
      have hAn := hA.st HN.out.1 lq hoth hBs
      have hE2 : RgAt V' pp a := hE.same (hoth pp npq.out)
      refine step_store 5 rfl rfl 24 _ _ rfl _ _ rfl rfl hst ⟨hAn, fun _ => trivial, fun _ => trivial⟩ ?_
      simp only [Act.put]
      clear hA hst; have hA := hAn; clear hAn
      refine done_ph (by kernel_rfl) ?_ _
      refine NoPanic.normal ?_
      go_wp2_with fail
      go_meet
      case rel => exact ⟨pp, pq, rfl, rfl, hA.2.2, hE2, hF⟩
    · refine step_alloc 3 rfl rfl 24 rfl #[.string ⟨#[]⟩, .string ⟨#[]⟩, .bool false, .bool false, .bool false, .bool false] rfl (fun pq V' zq hb hp => ⟨⟨hA.on HN.out.1 hb, fun _ => trivial, fun _ => trivial⟩, ?_⟩)
      simp only [Act.put, List.setIfInBounds_toArray, List.set_cons_zero, List.set_cons_succ]
      have lq := Nat.le_trans hA.2.2.size hp
      clear hp
      have hAn := hA.on HN.out.1 hb; clear hA; have hA := hAn; clear hAn
      clear hb
      refine ready_all [2] (by kernel_rfl) rfl (steps_cons ?_ (steps_nil))
      refine step_alloc 2 rfl rfl 24 rfl #[.string ⟨#[]⟩, .string ⟨#[]⟩, .bool false, .bool false, .bool false, .bool false] rfl (fun pp V' zp hb hp => ⟨⟨hA.on HN.out.1 hb, fun _ => trivial, fun _ => trivial⟩, ?_⟩)
      simp only [Act.put, List.setIfInBounds_toArray, List.set_cons_zero, List.set_cons_succ]
      have lp := Nat.le_trans hA.2.2.size hp
      have npq : Hid (pp ≠ pq) := fun e => by have := blk_lt zq; omega
      clear hp
      have hAn := hA.on HN.out.1 hb; clear hA; have hA := hAn; clear hAn
      have zn := blkKeep hb zq; clear zq; have zq := zn; clear zn
      clear hb
      refine ready_all [4] (by kernel_rfl) rfl (steps_cons ?_ (steps_nil))
      obtain ⟨V', hst, hE, hBs, hoth, _⟩ := store_rg a zp rfl lp hA.2.2
      have hAn := hA.st HN.out.1 lp hoth hBs
      have zn := (hoth pq (fun e => npq.out e.symm)).trans zq; clear zq; have zq := zn; clear zn zp
      refine step_store 4 rfl rfl 24 _ _ rfl _ _ rfl rfl hst ⟨hAn, fun _ => trivial, fun _ => trivial⟩ ?_
      simp only [Act.put]
      clear hA hst; have hA := hAn; clear hAn
      refine ready_all [5] (by kernel_rfl) rfl (steps_cons ?_ (steps_nil))
      obtain ⟨V', hst, hF, hBs, hoth, _⟩ := store_rg b zq rfl lq hA.2.2
      have hAn := hA.st HN.out.1 lq hoth hBs
      have hE2 : RgAt V' pp a := hE.same (hoth pp npq.out)
      refine step_store 5 rfl rfl 24 _ _ rfl _ _ rfl rfl hst ⟨hAn, fun _ => trivial, fun _ => trivial⟩ ?_
      simp only [Act.put]
      clear hA hst; have hA := hAn; clear hAn
      refine done_ph (by kernel_rfl) ?_ _
      refine NoPanic.normal ?_
      go_wp2_with fail
      go_meet
      case rel => exact ⟨pp, pq, rfl, rfl, hA.2.2, hE2, hF⟩
  case rest =>
    obtain ⟨p, q, rfl, rfl, HX⟩ := hcut
    obtain ⟨W1, rfl⟩ : ∃ W1, W1 = wc := ⟨_, rfl⟩
    have HB1 : Hid (Below n w W1) := HBW.out.trans (HX.out.1.mono (by have := HN.out.1; omega))
    have HXY : Hid (∀ V, Below W1.heap.size W1 V → RgAt V p a ∧ RgAt V q b ∧ RgAt V n a ∧ RgAt V (n + 1) b) := fun V hV =>
      ⟨HX.out.2.1.on hV (block_lt_of_cell HX.out.2.1.1), HX.out.2.2.on hV (block_lt_of_cell HX.out.2.2.1), (HT0.out.1.on HX.out.1 (by have := HN.out.1; omega)).on hV (by have h1 := HN.out.1; have h2 := HX.out.1.size; omega), (HT0.out.2.1.on HX.out.1 (by have := HN.out.1; omega)).on hV (by have h1 := HN.out.1; have h2 := HX.out.1.size; omega)⟩
    have HNW : Hid (n ≤ W1.heap.size) := by have h1 := HN.out.1; have h2 := HX.out.1.size; show _ ≤ _; omega
    clear HX HN HT0 HBW
    go_upto_region 2 with fail
    go_cut [9] from 13 to 33 (fun s wx => s = .bool true ∧ Hid (Below W1.heap.size W1 wx))
    case first =>
      have HK : Hid (∀ V V', (RgAt V p a ∧ RgAt V n a ∧ Below W1.heap.size W1 V) → Below V.heap.size V V' → (RgAt V' p a ∧ RgAt V' n a ∧ Below W1.heap.size W1 V')) := fun V V' h hb => by
        have h2 := below_step h.2.2 hb
        exact ⟨(HXY.out _ h2).1, (HXY.out _ h2).2.2.1, h2⟩
      have HS0 : Hid (RgAt W1.drew p a ∧ RgAt W1.drew n a ∧ Below W1.heap.size W1 W1.drew) := ⟨(HXY.out _ (below_drew _)).1, (HXY.out _ (below_drew _)).2.2.1, below_drew _⟩
      refine wp_region_noPanic ?_
      go_region_held (fun V => (V.cell? ⟨p, 0, none⟩ = some (.string a.f) ∧ V.cell? ⟨p, 1, none⟩ = some (.string a.t) ∧ V.cell? ⟨p, 2, none⟩ = some (.bool a.hf) ∧ V.cell? ⟨p, 3, none⟩ = some (.bool a.ht) ∧ V.cell? ⟨p, 4, none⟩ = some (.bool a.pf) ∧ V.cell? ⟨p, 5, none⟩ = some (.bool a.pt)) ∧ (V.cell? ⟨n, 0, none⟩ = some (.string a.f) ∧ V.cell? ⟨n, 1, none⟩ = some (.string a.t) ∧ V.cell? ⟨n, 2, none⟩ = some (.bool a.hf) ∧ V.cell? ⟨n, 3, none⟩ = some (.bool a.ht) ∧ V.cell? ⟨n, 4, none⟩ = some (.bool a.pf) ∧ V.cell? ⟨n, 5, none⟩ = some (.bool a.pt)) ∧ Below W1.heap.size W1 V)
        (first | (exact HS0.out) | (exact HK.out _ _ (by assumption) (by assumption)))
        (first
          | (go_at_call 7; refine (HA.out _).mono ?_; rintro e w' ⟨rfl, hb⟩)
          | (go_at_call 8; refine (HRA.out _).mono ?_; rintro e w' ⟨rfl, hb⟩)
          | (go_at_call 9; refine (HE.out _).mono ?_; rintro e w' ⟨rfl, hb⟩)
          | (go_at_call 10; refine (HRE.out _).mono ?_; rintro e w' ⟨rfl, hb⟩)
          | (go_at_call 11; refine (HT.out _).mono ?_; rintro e w' ⟨rfl, hb⟩)
          | (go_at_call 12; refine (HRT.out _).mono ?_; rintro e w' ⟨rfl, hb⟩)
          | fail)
      refine NoPanic.normal ?_
      go_wp2_with fail
      go_meet
      case rel => exact ⟨rfl, (by assumption : RgAt w' p a ∧ RgAt w' n a ∧ Below W1.heap.size W1 w').2.2⟩
    case rest =>
      obtain ⟨rfl, HBc⟩ := hcut
      obtain ⟨W2, rfl⟩ : ∃ W2, W2 = wc := ⟨_, rfl⟩
      go_upto_region 4 with fail
      obtain ⟨W3, hW3⟩ : ∃ W3, W3 = W2.alloc (.cells #[.string k, .string k, .bool true, .bool true, .bool false, .bool false] 23) := ⟨_, rfl⟩
      rw [← hW3]
      have HB3 : Hid (Below W1.heap.size W1 W3) := by show Below _ _ _; rw [hW3]; exact below_step HBc.out (below_alloc _ _)
      have HO3 : Hid (∀ V, Below W3.heap.size W3 V → RgAt V W2.heap.size ⟨k, k, true, true, false, false⟩) := fun V hV => (by rw [hW3]; exact rgAt_new W2 ⟨k, k, true, true, false, false⟩ 23 : RgAt W3 W2.heap.size ⟨k, k, true, true, false, false⟩).on hV (by rw [hW3]; simp [go_sem])
      clear hW3
      generalize W2.heap.size = o at *
      have HK : Hid (∀ V, Below W3.heap.size W3 V → (RgAt V p a ∧ RgAt V q b ∧ RgAt V n a ∧ RgAt V (n + 1) b ∧ RgAt V o ⟨k, k, true, true, false, false⟩ ∧ Below W3.heap.size W3 V)) := fun V hb => by
        have h2 := HXY.out _ (HB3.out.trans (hb.mono HB3.out.size))
        exact ⟨h2.1, h2.2.1, h2.2.2.1, h2.2.2.2, HO3.out V hb, hb⟩
      have hEQ : ∀ W, (Op.equalIn 10000 24 (.agg #[.string M1.f, .string M1.t, .bool M1.hf, .bool M1.ht, .bool M1.pf, .bool M1.pt]) (.agg #[.string M1.f, .string M1.t, .bool M1.hf, .bool M1.ht, .bool M1.pf, .bool M1.pt])).run Try.prog W = .ok true W := fun W => eqU_ W _ _ _ _ _ _
      have hEQ2 : ∀ W, (Op.equalIn 10000 24 (.agg #[.string P1.f, .string P1.t, .bool P1.hf, .bool P1.ht, .bool P1.pf, .bool P1.pt]) (.agg #[.string P1.f, .string P1.t, .bool P1.hf, .bool P1.ht, .bool P1.pf, .bool P1.pt])).run Try.prog W = .ok true W := fun W => eqU_ W _ _ _ _ _ _
      have hEQ3 : ∀ W, (Op.equalIn 10000 24 (.agg #[.string k, .string k, .bool true, .bool true, .bool false, .bool false]) (.agg #[.string k, .string k, .bool true, .bool true, .bool false, .bool false])).run Try.prog W = .ok true W := fun W => eqU_ W _ _ _ _ _ _
      have hGD := guardU
      clear HA HRA HE HRE HT HRT
      refine wp_region_noPanic ?_
      go_region_held (fun V => (V.cell? ⟨p, 0, none⟩ = some (.string a.f) ∧ V.cell? ⟨p, 1, none⟩ = some (.string a.t) ∧ V.cell? ⟨p, 2, none⟩ = some (.bool a.hf) ∧ V.cell? ⟨p, 3, none⟩ = some (.bool a.ht) ∧ V.cell? ⟨p, 4, none⟩ = some (.bool a.pf) ∧ V.cell? ⟨p, 5, none⟩ = some (.bool a.pt)) ∧ (V.cell? ⟨q, 0, none⟩ = some (.string b.f) ∧ V.cell? ⟨q, 1, none⟩ = some (.string b.t) ∧ V.cell? ⟨q, 2, none⟩ = some (.bool b.hf) ∧ V.cell? ⟨q, 3, none⟩ = some (.bool b.ht) ∧ V.cell? ⟨q, 4, none⟩ = some (.bool b.pf) ∧ V.cell? ⟨q, 5, none⟩ = some (.bool b.pt)) ∧ (V.cell? ⟨n, 0, none⟩ = some (.string a.f) ∧ V.cell? ⟨n, 1, none⟩ = some (.string a.t) ∧ V.cell? ⟨n, 2, none⟩ = some (.bool a.hf) ∧ V.cell? ⟨n, 3, none⟩ = some (.bool a.ht) ∧ V.cell? ⟨n, 4, none⟩ = some (.bool a.pf) ∧ V.cell? ⟨n, 5, none⟩ = some (.bool a.pt)) ∧ (V.cell? ⟨n + 1, 0, none⟩ = some (.string b.f) ∧ V.cell? ⟨n + 1, 1, none⟩ = some (.string b.t) ∧ V.cell? ⟨n + 1, 2, none⟩ = some (.bool b.hf) ∧ V.cell? ⟨n + 1, 3, none⟩ = some (.bool b.ht) ∧ V.cell? ⟨n + 1, 4, none⟩ = some (.bool b.pf) ∧ V.cell? ⟨n + 1, 5, none⟩ = some (.bool b.pt)) ∧ (V.cell? ⟨o, 0, none⟩ = some (.string k) ∧ V.cell? ⟨o, 1, none⟩ = some (.string k) ∧ V.cell? ⟨o, 2, none⟩ = some (.bool true) ∧ V.cell? ⟨o, 3, none⟩ = some (.bool true) ∧ V.cell? ⟨o, 4, none⟩ = some (.bool false) ∧ V.cell? ⟨o, 5, none⟩ = some (.bool false)) ∧ Below W3.heap.size W3 V)
        (first | (exact HK.out _ (below_drew _)) | (exact HK.out _ (below_step (by assumption : RgAt _ p a ∧ RgAt _ q b ∧ RgAt _ n a ∧ RgAt _ (n + 1) b ∧ RgAt _ o ⟨k, k, true, true, false, false⟩ ∧ Below W3.heap.size W3 _).2.2.2.2.2 (by assumption))))
        (first
          | (go_at_call 13; refine (C1.out _).mono ?_; rintro e w' ⟨rfl, hb⟩)
          | (go_at_call 14; refine (C2.out _).mono ?_; rintro e w' ⟨rfl, hb⟩)
          | (go_at_call 15; refine (C3.out _).mono ?_; rintro e w' ⟨rfl, hb⟩)
          | (go_at_call 16; refine (C4.out _).mono ?_; rintro e w' ⟨rfl, hb⟩)
          | (go_at_call 17; refine (C5.out _).mono ?_; rintro e w' ⟨rfl, hb⟩)
          | (go_at_call 18; refine (C6.out _).mono ?_; rintro e w' ⟨rfl, hb⟩)
          | fail)
      refine NoPanic.normal ?_
      go_wp2_with fail
      go_ret
      have hf := (by assumption : RgAt w' p a ∧ RgAt w' q b ∧ RgAt w' n a ∧ RgAt w' (n + 1) b ∧ RgAt w' o ⟨k, k, true, true, false, false⟩ ∧ Below W3.heap.size W3 w').2.2.2.2.2
      exact ⟨rfl, by rw [HNn.out]; exact HB1.out.trans ((HB3.out.trans (hf.mono HB3.out.size)).mono HNW.out)⟩
end Go.Proofs.Yteeojhmdefhlmaa
