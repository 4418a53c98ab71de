/- The walk of CursorMeets. -/
import Derived.Test.YteeojhmdefhlmaaCuSure
namespace Go.Proofs.Yteeojhmdefhlmaa
open Go.RowKit Go.Sort

/-- Whether a text begins with another one. -/
def begB (s k : ByteArray) : Bool := hasR (pfxR s) k
theorem begB_short {s k : ByteArray} (h : k.size < s.size) : begB s k = false := by
  cases hb : begB s k with
  | false => rfl
  | true =>
    have := (has_pfx s k).1 hb
    have := this.length_le
    rw [← size_list, ← size_list] at this
    omega
theorem begB_long {s k : ByteArray} : begB s k = ((k.extract 0 s.size).toList == s.toList) := by
  have e1 : (k.extract 0 s.size).toList = k.data.toList.take s.size := by rw [Lib.toList_data, ext_list]
  rw [e1, Lib.toList_data s]
  cases hb : begB s k with
  | true =>
    obtain ⟨o, ho⟩ := (has_pfx s k).1 hb
    rw [← ho, size_list, List.take_left]
    simp
  | false =>
    symm
    simp only [beq_eq_false_iff_ne, ne_eq]
    intro e
    have : s.data.toList <+: k.data.toList := ⟨k.data.toList.drop s.size, by rw [← e, List.take_append_drop]⟩
    have := (has_pfx s k).2 this
    unfold begB at hb
    rw [hb] at this
    cases this
set_option maxRecDepth 100000 in
set_option maxHeartbeats 4000000 in
theorem meets_walk (a b : Rg) (k : ByteArray) (w : World) (ha : a.f.size ≤ 140737488351232) :
    Calls Try.prog 5 #[rgV a, rgV b, .string k] w fun e w' => e = .returned (.bool true) ∧ Below w.heap.size w w' := by
  obtain ⟨u, hu⟩ : ∃ u, u = hasR a k := ⟨_, rfl⟩
  obtain ⟨v, hv⟩ : ∃ v, v = hasR b k := ⟨_, rfl⟩
  obtain ⟨em, hem⟩ : ∃ e, e = empR a := ⟨_, rfl⟩
  obtain ⟨M1, hM1⟩ : ∃ m, m = meetR a b := ⟨_, rfl⟩
  obtain ⟨M2, hM2⟩ : ∃ m, m = meetR b a := ⟨_, rfl⟩
  obtain ⟨O1, hO1⟩ : ∃ m, m = oneR k := ⟨_, rfl⟩
  obtain ⟨P1, hP1⟩ : ∃ m, m = pfxR a.f := ⟨_, rfl⟩
  obtain ⟨bg, hbg⟩ : ∃ m, m = begB a.f k := ⟨_, rfl⟩
  have HEU : Hid (em = true → u = false) := fun h => by rw [hu]; exact emp_has (by rw [← hem]; exact h)
  have HA : Hid (∀ W, Calls Try.prog 7 #[rgV a, .string k] W fun e w' => e = .returned (.bool u) ∧ Below W.heap.size W w') := fun W => by rw [hu]; exact has_ a k W
  have HB : Hid (∀ W, Calls Try.prog 7 #[rgV b, .string k] W fun e w' => e = .returned (.bool v) ∧ Below W.heap.size W w') := fun W => by rw [hv]; exact has_ b k W
  have HM : Hid (∀ W, Calls Try.prog 7 #[rgV M1, .string k] W fun e w' => e = .returned (.bool (u && v)) ∧ Below W.heap.size W w') := fun W => by
    have := has_ M1 k W
    rw [hM1, has_meet, ← hu, ← hv] at this
    rw [hM1]; exact this
  have HM' : Hid (∀ W, Calls Try.prog 7 #[rgV M2, .string k] W fun e w' => e = .returned (.bool (u && v)) ∧ Below W.heap.size W w') := fun W => by
    have := has_ M2 k W
    rw [hM2, has_meet, ← hu, ← hv, Bool.and_comm] at this
    rw [hM2]; exact this
  have HO : Hid (∀ W, Calls Try.prog 7 #[rgV O1, .string k] W fun e w' => e = .returned (.bool true) ∧ Below W.heap.size W w') := fun W => by
    have := has_ O1 k W
    rw [hO1, has_one] at this
    rw [hO1]; exact this
  have HP : Hid (∀ W, Calls Try.prog 7 #[rgV P1, .string k] W fun e w' => e = .returned (.bool bg) ∧ Below W.heap.size W w') := fun W => by rw [hbg, hP1]; exact has_ _ k W
  have HE : Hid (∀ W, Calls Try.prog 9 #[rgV a] W fun e w' => e = .returned (.bool em) ∧ Below W.heap.size W w') := fun W => by rw [hem]; exact emp_ a W
  have C1 : Hid (∀ W, Calls Try.prog 13 #[rgV a, rgV b] W fun e w' => e = .returned (rgV M1) ∧ Below W.heap.size W w') := fun W => by rw [hM1]; exact meet_ a b W
  have C2 : Hid (∀ W, Calls Try.prog 13 #[rgV b, rgV a] W fun e w' => e = .returned (rgV M2) ∧ Below W.heap.size W w') := fun W => by rw [hM2]; exact meet_ b a W
  have C3 : Hid (∀ W, Calls Try.prog 17 #[.string k] W fun e w' => e = .returned (rgV O1) ∧ Below W.heap.size W w') := fun W => by rw [hO1]; exact one_ k W
  have C4 : Hid (∀ W, Calls Try.prog 15 #[.string a.f] W fun e w' => e = .returned (rgV P1) ∧ Below W.heap.size W w') := fun W => by rw [hP1]; exact pfx_ a.f W (by omega)
  have C5 : Hid (∀ W, Calls Try.prog 18 #[] W fun e w' => e = .returned (.bool true) ∧ Below W.heap.size W w') := fun W => sure_ W
  have HG : Hid ((k.size < a.f.size → bg = false) ∧ (a.f.size ≤ k.size → bg = ((k.extract 0 a.f.size).toList == a.f.toList))) := ⟨fun h => by rw [hbg]; exact begB_short h, fun _ => by rw [hbg]; exact begB_long⟩
  clear hu hv hem hM1 hM2 hO1 hP1 hbg
  obtain ⟨W0, hW0⟩ : ∃ W0, W0 = (w.alloc (.cells #[.string a.f, .string a.t, .bool a.hf, .bool a.ht, .bool a.pf, .bool a.pt] 23)).alloc (.cells #[.string b.f, .string b.t, .bool b.hf, .bool b.ht, .bool b.pf, .bool b.pt] 23) := ⟨_, rfl⟩
  unfold rgV at *
  go_enter Try.func5, Try.ntmps5
  go_upto_region 1 with fail
  rw [← hW0]
  have HT0 : Hid (Two W0 w.heap.size a b W0) := by
    rw [hW0]
    refine ⟨(rgAt_new w a 23).on (below_alloc _ _) (by simp [go_sem]), ?_, Below.refl _ _⟩
    have := rgAt_new (w.alloc (.cells #[.string a.f, .string a.t, .bool a.hf, .bool a.ht, .bool a.pf, .bool a.pt] 23)) b 23
    simpa [go_sem] using this
  have HBW : Hid (Below w.heap.size w W0) := by show Below _ _ _; rw [hW0]; exact below_two w _ _
  have HN : Hid (w.heap.size + 1 < W0.heap.size ∧ True) := ⟨by rw [hW0]; simp [go_sem], trivial⟩
  generalize hn : w.heap.size = n at *
  have HNn := Lib.hid hn
  clear hW0 hn
  go_cut [7, 8] from 11 to 12 (fun p3 p4 wx => ∃ p q, p3 = .pointer (some ⟨p, 0, none⟩) ∧ p4 = .pointer (some ⟨q, 0, none⟩) ∧ Hid (Below W0.heap.size W0 wx ∧ RgAt wx p a ∧ RgAt wx q b))
  case first =>
    have HTD : Hid (Two W0 n a b W0.drew) := HT0.out.on HN.out.1 (below_drew W0)
    have FA : Hid (∀ V, Two W0 n a b V → RgAt V n a) := fun V h => h.1
    have FB : Hid (∀ V, Two W0 n a b V → RgAt V (n + 1) b) := fun V h => h.2.1
    unfold RgAt at FA FB
    refine wp_region_noPanic ?_
    refine region_ph (A := (Two W0 n a b)) (e1 := 9999) (B := fun _ => True) (e2 := 9999) (C := fun _ => True) (by kernel_rfl) ⟨HTD.out, fun _ => trivial, fun _ => trivial⟩ (fun hSt => ?_)
    have hA := hSt.1
    refine take_ph 0 (.agg #[.string a.f, .string a.t, .bool a.hf, .bool a.ht, .bool a.pf, .bool a.pt]) [] rfl (by kernel_rfl) (fun _ _ _ h => h) (Or.inl ⟨by rfl, ?_⟩) hSt (fun hSn => ?_)
    · rintro V ⟨hh, _, _⟩; have e0 := FA.out V hh; clear hh; go_simp
    clear hSt; rename Ph _ _ _ _ _ _ _ => hSt
    simp only [Act.put, List.setIfInBounds_toArray, List.set_cons_zero, List.set_cons_succ]
    refine take_ph 1 (.agg #[.string b.f, .string b.t, .bool b.hf, .bool b.ht, .bool b.pf, .bool b.pt]) [] rfl (by kernel_rfl) (fun _ _ _ h => h) (Or.inl ⟨by rfl, ?_⟩) hSt (fun hSn => ?_)
    · rintro V ⟨hh, _, _⟩; have e0 := FB.out V hh; clear hh; go_simp
    clear hSt; rename Ph _ _ _ _ _ _ _ => hSt
    simp only [Act.put, List.setIfInBounds_toArray, List.set_cons_zero, List.set_cons_succ]
    clear hSt
    refine ready_all [2, 3] (by kernel_rfl) rfl (steps_cons ?_ (steps_cons ?_ (steps_nil)))
    · refine step_alloc 2 rfl rfl 24 rfl #[.string ⟨#[]⟩, .string ⟨#[]⟩, .bool false, .bool false, .bool false, .bool false] rfl (fun pp V' zp hb hp => ⟨⟨hA.on HN.out.1 hb, fun _ => trivial, fun _ => trivial⟩, ?_⟩)
      simp only [Act.put, List.setIfInBounds_toArray, List.set_cons_zero, List.set_cons_succ]
      have lp := Nat.le_trans hA.2.2.size hp
      clear hp
      have hAn := hA.on HN.out.1 hb; clear hA; have hA := hAn; clear hAn
      clear hb
      refine ready_all [3] (by kernel_rfl) rfl (steps_cons ?_ (steps_nil))
      refine step_alloc 3 rfl rfl 24 rfl #[.string ⟨#[]⟩, .string ⟨#[]⟩, .bool false, .bool false, .bool false, .bool false] rfl (fun pq V' zq hb hp => ⟨⟨hA.on HN.out.1 hb, fun _ => trivial, fun _ => trivial⟩, ?_⟩)
      simp only [Act.put, List.setIfInBounds_toArray, List.set_cons_zero, List.set_cons_succ]
      have lq := Nat.le_trans hA.2.2.size hp
      have npq : Hid (pp ≠ pq) := fun e => by have := blk_lt zp; omega
      clear hp
      have hAn := hA.on HN.out.1 hb; clear hA; have hA := hAn; clear hAn
      have zn := blkKeep hb zp; clear zp; have zp := zn; clear zn
      clear hb
      refine ready_all [4] (by kernel_rfl) rfl (steps_cons ?_ (steps_nil))
      obtain ⟨V', hst, hE, hBs, hoth, _⟩ := store_rg a zp rfl lp hA.2.2
      have hAn := hA.st HN.out.1 lp hoth hBs
      have zn := (hoth pq (fun e => npq.out e.symm)).trans zq; clear zq; have zq := zn; clear zn zp
      refine step_store 4 rfl rfl 24 _ _ rfl _ _ rfl rfl hst ⟨hAn, fun _ => trivial, fun _ => trivial⟩ ?_
      simp only [Act.put]
      clear hA hst; have hA := hAn; clear hAn
      refine ready_all [5] (by kernel_rfl) rfl (steps_cons ?_ (steps_nil))
      obtain ⟨V', hst, hF, hBs, hoth, _⟩ := store_rg b zq rfl lq hA.2.2
      have hAn := hA.st HN.out.1 lq hoth hBs
      have hE2 : RgAt V' pp a := hE.same (hoth pp npq.out)
      refine step_store 5 rfl rfl 24 _ _ rfl _ _ rfl rfl hst ⟨hAn, fun _ => trivial, fun _ => trivial⟩ ?_
      simp only [Act.put]
      clear hA hst; have hA := hAn; clear hAn
      refine done_ph (by kernel_rfl) ?_ _
      refine NoPanic.normal ?_
      go_wp2_with fail
      go_meet
      case rel => exact ⟨pp, pq, rfl, rfl, hA.2.2, hE2, hF⟩
    · refine step_alloc 3 rfl rfl 24 rfl #[.string ⟨#[]⟩, .string ⟨#[]⟩, .bool false, .bool false, .bool false, .bool false] rfl (fun pq V' zq hb hp => ⟨⟨hA.on HN.out.1 hb, fun _ => trivial, fun _ => trivial⟩, ?_⟩)
      simp only [Act.put, List.setIfInBounds_toArray, List.set_cons_zero, List.set_cons_succ]
      have lq := Nat.le_trans hA.2.2.size hp
      clear hp
      have hAn := hA.on HN.out.1 hb; clear hA; have hA := hAn; clear hAn
      clear hb
      refine ready_all [2] (by kernel_rfl) rfl (steps_cons ?_ (steps_nil))
      refine step_alloc 2 rfl rfl 24 rfl #[.string ⟨#[]⟩, .string ⟨#[]⟩, .bool false, .bool false, .bool false, .bool false] rfl (fun pp V' zp hb hp => ⟨⟨hA.on HN.out.1 hb, fun _ => trivial, fun _ => trivial⟩, ?_⟩)
      simp only [Act.put, List.setIfInBounds_toArray, List.set_cons_zero, List.set_cons_succ]
      have lp := Nat.le_trans hA.2.2.size hp
      have npq : Hid (pp ≠ pq) := fun e => by have := blk_lt zq; omega
      clear hp
      have hAn := hA.on HN.out.1 hb; clear hA; have hA := hAn; clear hAn
      have zn := blkKeep hb zq; clear zq; have zq := zn; clear zn
      clear hb
      refine ready_all [4] (by kernel_rfl) rfl (steps_cons ?_ (steps_nil))
      obtain ⟨V', hst, hE, hBs, hoth, _⟩ := store_rg a zp rfl lp hA.2.2
      have hAn := hA.st HN.out.1 lp hoth hBs
      have zn := (hoth pq (fun e => npq.out e.symm)).trans zq; clear zq; have zq := zn; clear zn zp
      refine step_store 4 rfl rfl 24 _ _ rfl _ _ rfl rfl hst ⟨hAn, fun _ => trivial, fun _ => trivial⟩ ?_
      simp only [Act.put]
      clear hA hst; have hA := hAn; clear hAn
      refine ready_all [5] (by kernel_rfl) rfl (steps_cons ?_ (steps_nil))
      obtain ⟨V', hst, hF, hBs, hoth, _⟩ := store_rg b zq rfl lq hA.2.2
      have hAn := hA.st HN.out.1 lq hoth hBs
      have hE2 : RgAt V' pp a := hE.same (hoth pp npq.out)
      refine step_store 5 rfl rfl 24 _ _ rfl _ _ rfl rfl hst ⟨hAn, fun _ => trivial, fun _ => trivial⟩ ?_
      simp only [Act.put]
      clear hA hst; have hA := hAn; clear hAn
      refine done_ph (by kernel_rfl) ?_ _
      refine NoPanic.normal ?_
      go_wp2_with fail
      go_meet
      case rel => exact ⟨pp, pq, rfl, rfl, hA.2.2, hE2, hF⟩
  case rest =>
    obtain ⟨p, q, rfl, rfl, HX⟩ := hcut
    obtain ⟨W1, rfl⟩ : ∃ W1, W1 = wc := ⟨_, rfl⟩
    have HB1 : Hid (Below n w W1) := HBW.out.trans (HX.out.1.mono (by have := HN.out.1; omega))
    have HXY : Hid (∀ V, Below W1.heap.size W1 V → RgAt V p a ∧ RgAt V q b ∧ RgAt V n a) := fun V hV =>
      ⟨HX.out.2.1.on hV (block_lt_of_cell HX.out.2.1.1), HX.out.2.2.on hV (block_lt_of_cell HX.out.2.2.1), (HT0.out.1.on HX.out.1 (by have := HN.out.1; omega)).on hV (by have h1 := HN.out.1; have h2 := HX.out.1.size; omega)⟩
    have HNW : Hid (n ≤ W1.heap.size) := by have h1 := HN.out.1; have h2 := HX.out.1.size; show _ ≤ _; omega
    unfold RgAt at HXY
    have HBc : Hid (Below W1.heap.size W1 W1) := Below.refl _ _
    clear HX HN HT0 HBW
    obtain ⟨⟨x0, x1, x2, x3, x4, x5⟩, ⟨y0, y1, y2, y3, y4, y5⟩, _⟩ := HXY.out _ HBc.out
    go_upto_region 2 with fail
    go_cut [9] from 13 to 20 (fun s wx => s = .bool (u && v) ∧ Hid (Below W1.heap.size W1 wx))
    case first =>
      cases u with
      | false =>
        go_wp2_with (first
          | (go_at_call 7; refine (HA.out _).mono ?_; rintro e w' ⟨rfl, hb⟩; have HBn := Lib.hid (below_step HBc.out hb); clear HBc hb HA x0 x1 x2 x3 x4 x5 y0 y1 y2 y3 y4 y5; have HBc := HBn; clear HBn; obtain ⟨⟨x0, x1, x2, x3, x4, x5⟩, ⟨y0, y1, y2, y3, y4, y5⟩, _⟩ := HXY.out _ HBc.out)
          | (go_at_call 7; refine (HB.out _).mono ?_; rintro e w' ⟨rfl, hb⟩; have HBn := Lib.hid (below_step HBc.out hb); clear HBc hb HB x0 x1 x2 x3 x4 x5 y0 y1 y2 y3 y4 y5; have HBc := HBn; clear HBn; obtain ⟨⟨x0, x1, x2, x3, x4, x5⟩, ⟨y0, y1, y2, y3, y4, y5⟩, _⟩ := HXY.out _ HBc.out)
          | fail)
        go_meet
        case rel => exact ⟨rfl, HBc⟩
      | true =>
        go_wp2_with (first
          | (go_at_call 7; refine (HA.out _).mono ?_; rintro e w' ⟨rfl, hb⟩; have HBn := Lib.hid (below_step HBc.out hb); clear HBc hb HA x0 x1 x2 x3 x4 x5 y0 y1 y2 y3 y4 y5; have HBc := HBn; clear HBn; obtain ⟨⟨x0, x1, x2, x3, x4, x5⟩, ⟨y0, y1, y2, y3, y4, y5⟩, _⟩ := HXY.out _ HBc.out)
          | (go_at_call 7; refine (HB.out _).mono ?_; rintro e w' ⟨rfl, hb⟩; have HBn := Lib.hid (below_step HBc.out hb); clear HBc hb HB x0 x1 x2 x3 x4 x5 y0 y1 y2 y3 y4 y5; have HBc := HBn; clear HBn; obtain ⟨⟨x0, x1, x2, x3, x4, x5⟩, ⟨y0, y1, y2, y3, y4, y5⟩, _⟩ := HXY.out _ HBc.out)
          | fail)
        go_meet
        case rel => exact ⟨by simp, HBc⟩
    case rest =>
      clear x0 x1 x2 x3 x4 x5 y0 y1 y2 y3 y4 y5 HBc
      obtain ⟨rfl, HBc⟩ := hcut
      obtain ⟨⟨x0, x1, x2, x3, x4, x5⟩, ⟨y0, y1, y2, y3, y4, y5⟩, _⟩ := HXY.out _ HBc.out
      go_upto_region 3 with fail
      go_cut [52] from 21 to 52 (fun s wx => s = .bool false ∧ Hid (Below W1.heap.size W1 wx))
      case first =>
        have hEU := HEU.out
        generalize hB : (u && v) = B at *
        clear hB
        cases em with
        | false =>
          clear hEU
          cases B
          all_goals (
            go_wp2_with (first
              | (go_at_call 13; refine (C1.out _).mono ?_; rintro e w' ⟨rfl, hb⟩; have HBn := Lib.hid (below_step HBc.out hb); clear HBc hb C1 x0 x1 x2 x3 x4 x5 y0 y1 y2 y3 y4 y5; have HBc := HBn; clear HBn; obtain ⟨⟨x0, x1, x2, x3, x4, x5⟩, ⟨y0, y1, y2, y3, y4, y5⟩, _⟩ := HXY.out _ HBc.out)
              | (go_at_call 7; refine (HM.out _).mono ?_; rintro e w' ⟨rfl, hb⟩; have HBn := Lib.hid (below_step HBc.out hb); clear HBc hb HM x0 x1 x2 x3 x4 x5 y0 y1 y2 y3 y4 y5; have HBc := HBn; clear HBn; obtain ⟨⟨x0, x1, x2, x3, x4, x5⟩, ⟨y0, y1, y2, y3, y4, y5⟩, _⟩ := HXY.out _ HBc.out)
              | (go_at_call 13; refine (C2.out _).mono ?_; rintro e w' ⟨rfl, hb⟩; have HBn := Lib.hid (below_step HBc.out hb); clear HBc hb C2 x0 x1 x2 x3 x4 x5 y0 y1 y2 y3 y4 y5; have HBc := HBn; clear HBn; obtain ⟨⟨x0, x1, x2, x3, x4, x5⟩, ⟨y0, y1, y2, y3, y4, y5⟩, _⟩ := HXY.out _ HBc.out)
              | (go_at_call 7; refine (HM'.out _).mono ?_; rintro e w' ⟨rfl, hb⟩; have HBn := Lib.hid (below_step HBc.out hb); clear HBc hb HM' x0 x1 x2 x3 x4 x5 y0 y1 y2 y3 y4 y5; have HBc := HBn; clear HBn; obtain ⟨⟨x0, x1, x2, x3, x4, x5⟩, ⟨y0, y1, y2, y3, y4, y5⟩, _⟩ := HXY.out _ HBc.out)
              | (go_at_call 9; refine (HE.out _).mono ?_; rintro e w' ⟨rfl, hb⟩; have HBn := Lib.hid (below_step HBc.out hb); clear HBc hb HE x0 x1 x2 x3 x4 x5 y0 y1 y2 y3 y4 y5; have HBc := HBn; clear HBn; obtain ⟨⟨x0, x1, x2, x3, x4, x5⟩, ⟨y0, y1, y2, y3, y4, y5⟩, _⟩ := HXY.out _ HBc.out)
              | (go_at_call 17; refine (C3.out _).mono ?_; rintro e w' ⟨rfl, hb⟩; have HBn := Lib.hid (below_step HBc.out hb); clear HBc hb C3 x0 x1 x2 x3 x4 x5 y0 y1 y2 y3 y4 y5; have HBc := HBn; clear HBn; obtain ⟨⟨x0, x1, x2, x3, x4, x5⟩, ⟨y0, y1, y2, y3, y4, y5⟩, _⟩ := HXY.out _ HBc.out)
              | (go_at_call 7; refine (HO.out _).mono ?_; rintro e w' ⟨rfl, hb⟩; have HBn := Lib.hid (below_step HBc.out hb); clear HBc hb HO x0 x1 x2 x3 x4 x5 y0 y1 y2 y3 y4 y5; have HBc := HBn; clear HBn; obtain ⟨⟨x0, x1, x2, x3, x4, x5⟩, ⟨y0, y1, y2, y3, y4, y5⟩, _⟩ := HXY.out _ HBc.out)
              | fail)
            go_meet
            case rel => exact ⟨rfl, HBc⟩)
        | true =>
          obtain rfl := hEU rfl
          clear hEU
          cases B
          all_goals (
            go_wp2_with (first
              | (go_at_call 13; refine (C1.out _).mono ?_; rintro e w' ⟨rfl, hb⟩; have HBn := Lib.hid (below_step HBc.out hb); clear HBc hb C1 x0 x1 x2 x3 x4 x5 y0 y1 y2 y3 y4 y5; have HBc := HBn; clear HBn; obtain ⟨⟨x0, x1, x2, x3, x4, x5⟩, ⟨y0, y1, y2, y3, y4, y5⟩, _⟩ := HXY.out _ HBc.out)
              | (go_at_call 7; refine (HM.out _).mono ?_; rintro e w' ⟨rfl, hb⟩; have HBn := Lib.hid (below_step HBc.out hb); clear HBc hb HM x0 x1 x2 x3 x4 x5 y0 y1 y2 y3 y4 y5; have HBc := HBn; clear HBn; obtain ⟨⟨x0, x1, x2, x3, x4, x5⟩, ⟨y0, y1, y2, y3, y4, y5⟩, _⟩ := HXY.out _ HBc.out)
              | (go_at_call 13; refine (C2.out _).mono ?_; rintro e w' ⟨rfl, hb⟩; have HBn := Lib.hid (below_step HBc.out hb); clear HBc hb C2 x0 x1 x2 x3 x4 x5 y0 y1 y2 y3 y4 y5; have HBc := HBn; clear HBn; obtain ⟨⟨x0, x1, x2, x3, x4, x5⟩, ⟨y0, y1, y2, y3, y4, y5⟩, _⟩ := HXY.out _ HBc.out)
              | (go_at_call 7; refine (HM'.out _).mono ?_; rintro e w' ⟨rfl, hb⟩; have HBn := Lib.hid (below_step HBc.out hb); clear HBc hb HM' x0 x1 x2 x3 x4 x5 y0 y1 y2 y3 y4 y5; have HBc := HBn; clear HBn; obtain ⟨⟨x0, x1, x2, x3, x4, x5⟩, ⟨y0, y1, y2, y3, y4, y5⟩, _⟩ := HXY.out _ HBc.out)
              | (go_at_call 9; refine (HE.out _).mono ?_; rintro e w' ⟨rfl, hb⟩; have HBn := Lib.hid (below_step HBc.out hb); clear HBc hb HE x0 x1 x2 x3 x4 x5 y0 y1 y2 y3 y4 y5; have HBc := HBn; clear HBn; obtain ⟨⟨x0, x1, x2, x3, x4, x5⟩, ⟨y0, y1, y2, y3, y4, y5⟩, _⟩ := HXY.out _ HBc.out)
              | (go_at_call 7; refine (HA.out _).mono ?_; rintro e w' ⟨rfl, hb⟩; have HBn := Lib.hid (below_step HBc.out hb); clear HBc hb HA x0 x1 x2 x3 x4 x5 y0 y1 y2 y3 y4 y5; have HBc := HBn; clear HBn; obtain ⟨⟨x0, x1, x2, x3, x4, x5⟩, ⟨y0, y1, y2, y3, y4, y5⟩, _⟩ := HXY.out _ HBc.out)
              | (go_at_call 17; refine (C3.out _).mono ?_; rintro e w' ⟨rfl, hb⟩; have HBn := Lib.hid (below_step HBc.out hb); clear HBc hb C3 x0 x1 x2 x3 x4 x5 y0 y1 y2 y3 y4 y5; have HBc := HBn; clear HBn; obtain ⟨⟨x0, x1, x2, x3, x4, x5⟩, ⟨y0, y1, y2, y3, y4, y5⟩, _⟩ := HXY.out _ HBc.out)
              | (go_at_call 7; refine (HO.out _).mono ?_; rintro e w' ⟨rfl, hb⟩; have HBn := Lib.hid (below_step HBc.out hb); clear HBc hb HO x0 x1 x2 x3 x4 x5 y0 y1 y2 y3 y4 y5; have HBc := HBn; clear HBn; obtain ⟨⟨x0, x1, x2, x3, x4, x5⟩, ⟨y0, y1, y2, y3, y4, y5⟩, _⟩ := HXY.out _ HBc.out)
              | fail)
            go_meet
            case rel => exact ⟨rfl, HBc⟩)
      case rest =>
        clear x0 x1 x2 x3 x4 x5 y0 y1 y2 y3 y4 y5 HBc
        obtain ⟨rfl, HBc⟩ := hcut
        obtain ⟨⟨x0, x1, x2, x3, x4, x5⟩, ⟨y0, y1, y2, y3, y4, y5⟩, ⟨z0, _⟩⟩ := HXY.out _ HBc.out
        go_upto_region 5 with fail
        go_cut [10] from 53 to 68 (fun s wx => s = .bool bg ∧ Hid (Below W1.heap.size W1 wx))
        case first =>
          clear x0 x1 x2 x3 x4 x5 y0 y1 y2 y3 y4 y5
          by_cases hle : a.f.size ≤ k.size
          · have hbg := HG.out.2 hle
            have q1 : decide ((k.size : Int) ≥ (a.f.size : Int)) = true := by simp; omega
            have q2 : (a.f.size : Int) ≤ (k.size : Int) := by omega
            have q3 : decide ((a.f.size : Int) ≤ (k.size : Int)) = true := by simp; omega
            refine wp_region_noPanic ?_
            go_quiet (fail)
            refine NoPanic.normal ?_
            go_wp2_with fail
            go_meet
            case rel => exact ⟨by rw [hbg], below_drewN HBc.out nq⟩
          · have hbg := HG.out.1 (by omega)
            have q1 : decide ((k.size : Int) ≥ (a.f.size : Int)) = false := by simp; omega
            have q3 : decide ((a.f.size : Int) ≤ (k.size : Int)) = false := by simp; omega
            refine wp_region_noPanic ?_
            go_quiet (fail)
            refine NoPanic.normal ?_
            go_wp2_with fail
            go_meet
            case rel => exact ⟨by rw [hbg], below_drewN HBc.out nq⟩
        case rest =>
          clear x0 x1 x2 x3 x4 x5 y0 y1 y2 y3 y4 y5 z0 HBc
          obtain ⟨rfl, HBc⟩ := hcut
          obtain ⟨⟨x0, x1, x2, x3, x4, x5⟩, ⟨y0, y1, y2, y3, y4, y5⟩, ⟨z0, _⟩⟩ := HXY.out _ HBc.out
          cases bg
          all_goals (
            go_wp2_with (first
              | (go_at_call 15; refine (C4.out _).mono ?_; rintro e w' ⟨rfl, hb⟩; have HBn := Lib.hid (below_step HBc.out hb); clear HBc hb C4 x0 x1 x2 x3 x4 x5 y0 y1 y2 y3 y4 y5; have HBc := HBn; clear HBn; obtain ⟨⟨x0, x1, x2, x3, x4, x5⟩, ⟨y0, y1, y2, y3, y4, y5⟩, _⟩ := HXY.out _ HBc.out)
              | (go_at_call 7; refine (HP.out _).mono ?_; rintro e w' ⟨rfl, hb⟩; have HBn := Lib.hid (below_step HBc.out hb); clear HBc hb HP x0 x1 x2 x3 x4 x5 y0 y1 y2 y3 y4 y5; have HBc := HBn; clear HBn; obtain ⟨⟨x0, x1, x2, x3, x4, x5⟩, ⟨y0, y1, y2, y3, y4, y5⟩, _⟩ := HXY.out _ HBc.out)
              | (go_at_call 18; refine (C5.out _).mono ?_; rintro e w' ⟨rfl, hb⟩; have HBn := Lib.hid (below_step HBc.out hb); clear HBc hb C5 x0 x1 x2 x3 x4 x5 y0 y1 y2 y3 y4 y5; have HBc := HBn; clear HBn; obtain ⟨⟨x0, x1, x2, x3, x4, x5⟩, ⟨y0, y1, y2, y3, y4, y5⟩, _⟩ := HXY.out _ HBc.out)
              | fail)
            go_ret
            exact ⟨rfl, by rw [HNn.out]; exact HB1.out.trans (HBc.out.mono HNW.out)⟩)
end Go.Proofs.Yteeojhmdefhlmaa
