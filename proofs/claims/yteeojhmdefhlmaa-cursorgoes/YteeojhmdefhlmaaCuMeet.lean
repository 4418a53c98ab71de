/- Meet, One, Prefix. -/
import Derived.Test.YteeojhmdefhlmaaCuEnds
import Derived.Test.YteeojhmdefhlmaaCuPh
import Derived.Deep.CutRange
namespace Go.Proofs.Yteeojhmdefhlmaa
open Go.RowKit Go.Sort

/-- What Meet's regions lean on: two ranges in memory, and all that is old stays. -/
def Two (W : World) (n : Nat) (a b : Rg) (V : World) : Prop := RgAt V n a ∧ RgAt V (n + 1) b ∧ Below W.heap.size W V
theorem Two.on {W V V' : World} {n : Nat} {a b : Rg} (h : Two W n a b V) (hn : n + 1 < W.heap.size) (hb : Below V.heap.size V V') : Two W n a b V' :=
  ⟨h.1.on hb (by have := h.2.2.size; omega), h.2.1.on hb (by have := h.2.2.size; omega), below_step h.2.2 hb⟩
theorem EnAt.on {w w' : World} {b : Nat} {e : En} (h : EnAt w b e) (hb : Below w.heap.size w w') : EnAt w' b e := (hb.block b (blk_lt h)).trans h
theorem RgAt.same {V V' : World} {b : Nat} {r : Rg} (h : RgAt V b r) (hs : V'.heap[b]? = V.heap[b]?) : RgAt V' b r := by
  obtain ⟨h0, h1, h2, h3, h4, h5⟩ := h
  exact ⟨(cell_same hs).trans h0, (cell_same hs).trans h1, (cell_same hs).trans h2, (cell_same hs).trans h3, (cell_same hs).trans h4, (cell_same hs).trans h5⟩
theorem Two.st {W V V' : World} {n p : Nat} {a b : Rg} (h : Two W n a b V) (hn : n + 1 < W.heap.size) (hp : W.heap.size ≤ p) (hk : ∀ k, k ≠ p → V'.heap[k]? = V.heap[k]?) (hb : Below W.heap.size W V') : Two W n a b V' :=
  ⟨h.1.same (hk n (by omega)), h.2.1.same (hk (n + 1) (by omega)), hb⟩
set_option maxRecDepth 100000 in
set_option maxHeartbeats 2000000 in
theorem meet_ (a b : Rg) (w : World) : Calls Try.prog 13 #[rgV a, rgV b] w fun e w' => e = .returned (rgV (meetR a b)) ∧ Below w.heap.size w w' := by
  obtain ⟨e1, he1⟩ : ∃ e, e = frmE a := ⟨_, rfl⟩
  obtain ⟨e2, he2⟩ : ∃ e, e = frmE b := ⟨_, rfl⟩
  obtain ⟨e3, he3⟩ : ∃ e, e = toE a := ⟨_, rfl⟩
  obtain ⟨e4, he4⟩ : ∃ e, e = toE b := ⟨_, rfl⟩
  obtain ⟨F, hF⟩ : ∃ F, F = narE e1 e2 true := ⟨_, rfl⟩
  obtain ⟨T, hT⟩ : ∃ T, T = narE e3 e4 false := ⟨_, rfl⟩
  have hR : meetR a b = joinR F T := by rw [hF, hT, he1, he2, he3, he4]; rfl
  rw [hR]
  have C1 : Hid (∀ W, Calls Try.prog 27 #[rgV a] W fun e w' => e = .returned (enV e1) ∧ Below W.heap.size W w') := fun W => by rw [he1]; exact fromOf_ a W
  have C2 : Hid (∀ W, Calls Try.prog 27 #[rgV b] W fun e w' => e = .returned (enV e2) ∧ Below W.heap.size W w') := fun W => by rw [he2]; exact fromOf_ b W
  have C3 : Hid (∀ W, Calls Try.prog 28 #[rgV a] W fun e w' => e = .returned (enV e3) ∧ Below W.heap.size W w') := fun W => by rw [he3]; exact toOf_ a W
  have C4 : Hid (∀ W, Calls Try.prog 28 #[rgV b] W fun e w' => e = .returned (enV e4) ∧ Below W.heap.size W w') := fun W => by rw [he4]; exact toOf_ b W
  have C5 : Hid (∀ W, Calls Try.prog 31 #[enV e1, enV e2, .int .i64 1] W fun e w' => e = .returned (enV F) ∧ Below W.heap.size W w') := fun W => by rw [hF]; exact nar_ e1 e2 true W
  have C6 : Hid (∀ W, Calls Try.prog 31 #[enV e3, enV e4, .int .i64 (-1)] W fun e w' => e = .returned (enV T) ∧ Below W.heap.size W w') := fun W => by rw [hT]; exact nar_ e3 e4 false W
  clear hR he1 he2 he3 he4 hF hT
  obtain ⟨W0, hW0⟩ : ∃ W0, W0 = ((w.alloc (.cells #[.string a.f, .string a.t, .bool a.hf, .bool a.ht, .bool a.pf, .bool a.pt] 24)).alloc (.cells #[.string b.f, .string b.t, .bool b.hf, .bool b.ht, .bool b.pf, .bool b.pt] 24)).alloc (.cells #[.string ⟨#[]⟩, .string ⟨#[]⟩, .bool false, .bool false, .bool false, .bool false] 24) := ⟨_, rfl⟩
  unfold rgV enV at *
  go_enter Try.func13, Try.ntmps13
  go_upto_region 1 with fail
  rw [← hW0]
  have R1 : RgAt W0 w.heap.size a := by
    rw [hW0]
    exact (rgAt_new w a 24).on (N := w.heap.size + 1) (by have := below_two (w.alloc (.cells #[.string a.f, .string a.t, .bool a.hf, .bool a.ht, .bool a.pf, .bool a.pt] 24)) (.cells #[.string b.f, .string b.t, .bool b.hf, .bool b.ht, .bool b.pf, .bool b.pt] 24) (.cells #[.string ⟨#[]⟩, .string ⟨#[]⟩, .bool false, .bool false, .bool false, .bool false] 24); simpa [go_sem] using this) (Nat.lt_succ_self _)
  have R2 : RgAt W0 (w.heap.size + 1) b := by
    rw [hW0]
    have := (rgAt_new (w.alloc (.cells #[.string a.f, .string a.t, .bool a.hf, .bool a.ht, .bool a.pf, .bool a.pt] 24)) b 24).on (below_alloc _ (.cells #[.string ⟨#[]⟩, .string ⟨#[]⟩, .bool false, .bool false, .bool false, .bool false] 24)) (by simp [go_sem])
    simpa [go_sem] using this
  have R3 : W0.heap[w.heap.size + 1 + 1]? = some (.cells #[.string ⟨#[]⟩, .string ⟨#[]⟩, .bool false, .bool false, .bool false, .bool false] 24 (0, 0)) := by
    rw [hW0]; exact three_alloc w _ _ _
  have HBW : Hid (Below w.heap.size w W0) := by show Below _ _ _; rw [hW0]; exact below_three w _ _ _
  have hsz : W0.heap.size = w.heap.size + 3 := by rw [hW0]; simp [go_sem]
  generalize hn : w.heap.size = n at *
  clear hW0
  have HT0 : Hid (Two W0 n a b W0) := ⟨R1, R2, Below.refl _ _⟩
  have HN : Hid (n + 1 < W0.heap.size ∧ n + 1 + 1 < W0.heap.size) := ⟨by omega, by omega⟩
  have HR3 := Lib.hid R3
  clear R3
  go_cut [5] from 7 to 11 (fun p5 wx => ∃ p, p5 = .pointer (some ⟨p, 0, none⟩) ∧ Hid (Two W0 n a b wx ∧ EnAt wx p F ∧ W0.heap.size ≤ p))
  case first =>
    have HTD : Hid (Two W0 n a b W0.drew) := HT0.out.on HN.out.1 (below_drew W0)
    have FA : Hid (∀ V, Two W0 n a b V → RgAt V n a) := fun V h => h.1
    have FB : Hid (∀ V, Two W0 n a b V → RgAt V (n + 1) b) := fun V h => h.2.1
    unfold RgAt at FA FB
    clear R1 R2
    refine wp_region_noPanic ?_
    refine region_ph (A := (Two W0 n a b)) (e1 := 9999) (B := fun _ => True) (e2 := 9999) (C := fun _ => True) (by kernel_rfl) ⟨HTD.out, fun _ => trivial, fun _ => trivial⟩ (fun hSt => ?_)
    have hA := hSt.1
    refine take_ph 0 (.agg #[.string a.f, .string a.t, .bool a.hf, .bool a.ht, .bool a.pf, .bool a.pt]) [] rfl (by kernel_rfl) (fun _ _ _ h => h) (Or.inl ⟨by rfl, ?_⟩) hSt (fun hSn => ?_)
    · rintro V ⟨hh, _, _⟩; have e0 := FA.out V hh; clear hh; go_simp
    clear hSt; rename Ph _ _ _ _ _ _ _ => hSt
    simp only [Act.put, List.setIfInBounds_toArray, List.set_cons_zero, List.set_cons_succ]
    refine take_ph 2 (.agg #[.string b.f, .string b.t, .bool b.hf, .bool b.ht, .bool b.pf, .bool b.pt]) [] rfl (by kernel_rfl) (fun _ _ _ h => h) (Or.inl ⟨by rfl, ?_⟩) hSt (fun hSn => ?_)
    · rintro V ⟨hh, _, _⟩; have e0 := FB.out V hh; clear hh; go_simp
    clear hSt; rename Ph _ _ _ _ _ _ _ => hSt
    simp only [Act.put, List.setIfInBounds_toArray, List.set_cons_zero, List.set_cons_succ]
    clear hSt
    refine ready_all [1, 5] (by kernel_rfl) rfl (steps_cons ?_ (steps_cons ?_ (steps_nil)))
    · refine step_call 1 rfl (fun KK hK => ?_)
      go_simp
      go_wp2_with (first | (go_at_call 27; refine (C1.out _).mono ?_; rintro e V' ⟨rfl, hb⟩))
      refine hK.out _ _ ⟨hA.on HN.out.1 hb, fun _ => trivial, fun _ => trivial⟩ ?_
      clear hK KK
      have hAn := hA.on HN.out.1 hb; clear hA; have hA := hAn; clear hAn
      clear hb
      refine ready_all [3, 5] (by kernel_rfl) rfl (steps_cons ?_ (steps_cons ?_ (steps_nil)))
      · refine step_call 3 rfl (fun KK hK => ?_)
        go_simp
        go_wp2_with (first | (go_at_call 27; refine (C2.out _).mono ?_; rintro e V' ⟨rfl, hb⟩))
        refine hK.out _ _ ⟨hA.on HN.out.1 hb, fun _ => trivial, fun _ => trivial⟩ ?_
        clear hK KK
        have hAn := hA.on HN.out.1 hb; clear hA; have hA := hAn; clear hAn
        clear hb
        refine ready_all [4, 5] (by kernel_rfl) rfl (steps_cons ?_ (steps_cons ?_ (steps_nil)))
        · refine step_call 4 rfl (fun KK hK => ?_)
          go_simp
          go_wp2_with (first | (go_at_call 31; refine (C5.out _).mono ?_; rintro e V' ⟨rfl, hb⟩))
          refine hK.out _ _ ⟨hA.on HN.out.1 hb, fun _ => trivial, fun _ => trivial⟩ ?_
          clear hK KK
          have hAn := hA.on HN.out.1 hb; clear hA; have hA := hAn; clear hAn
          clear hb
          refine ready_all [5] (by kernel_rfl) rfl (steps_cons ?_ (steps_nil))
          refine step_alloc 5 rfl rfl 54 rfl #[.string ⟨#[]⟩, .bool false, .bool false] rfl (fun pp V' zp hb hp => ⟨⟨hA.on HN.out.1 hb, fun _ => trivial, fun _ => trivial⟩, ?_⟩)
          simp only [Act.put, List.setIfInBounds_toArray, List.set_cons_zero, List.set_cons_succ]
          have lp := Nat.le_trans hA.2.2.size hp; clear hp
          have hAn := hA.on HN.out.1 hb; clear hA; have hA := hAn; clear hAn
          clear hb
          refine ready_all [6] (by kernel_rfl) rfl (steps_cons ?_ (steps_nil))
          obtain ⟨V', hst, hE, hBs, hoth, _⟩ := store_en F zp rfl lp hA.2.2
          have hAn := hA.st HN.out.1 lp hoth hBs
          refine step_store 6 rfl rfl 54 _ _ rfl _ _ rfl rfl hst ⟨hAn, fun _ => trivial, fun _ => trivial⟩ ?_
          simp only [Act.put]
          clear hA hst; have hA := hAn; clear hAn
          refine done_ph (by kernel_rfl) ?_ _
          refine NoPanic.normal ?_
          go_wp2_with fail
          go_meet
          case rel => exact ⟨pp, rfl, hA, hE, lp⟩
        · refine step_alloc 5 rfl rfl 54 rfl #[.string ⟨#[]⟩, .bool false, .bool false] rfl (fun pp V' zp hb hp => ⟨⟨hA.on HN.out.1 hb, fun _ => trivial, fun _ => trivial⟩, ?_⟩)
          simp only [Act.put, List.setIfInBounds_toArray, List.set_cons_zero, List.set_cons_succ]
          have lp := Nat.le_trans hA.2.2.size hp; clear hp
          have hAn := hA.on HN.out.1 hb; clear hA; have hA := hAn; clear hAn
          clear hb
          refine ready_all [4] (by kernel_rfl) rfl (steps_cons ?_ (steps_nil))
          refine step_call 4 rfl (fun KK hK => ?_)
          go_simp
          go_wp2_with (first | (go_at_call 31; refine (C5.out _).mono ?_; rintro e V' ⟨rfl, hb⟩))
          refine hK.out _ _ ⟨hA.on HN.out.1 hb, fun _ => trivial, fun _ => trivial⟩ ?_
          clear hK KK
          have hAn := hA.on HN.out.1 hb; clear hA; have hA := hAn; clear hAn
          have zn := blkKeep hb zp; clear zp; have zp := zn; clear zn
          clear hb
          refine ready_all [6] (by kernel_rfl) rfl (steps_cons ?_ (steps_nil))
          obtain ⟨V', hst, hE, hBs, hoth, _⟩ := store_en F zp rfl lp hA.2.2
          have hAn := hA.st HN.out.1 lp hoth hBs
          refine step_store 6 rfl rfl 54 _ _ rfl _ _ rfl rfl hst ⟨hAn, fun _ => trivial, fun _ => trivial⟩ ?_
          simp only [Act.put]
          clear hA hst; have hA := hAn; clear hAn
          refine done_ph (by kernel_rfl) ?_ _
          refine NoPanic.normal ?_
          go_wp2_with fail
          go_meet
          case rel => exact ⟨pp, rfl, hA, hE, lp⟩
      · refine step_alloc 5 rfl rfl 54 rfl #[.string ⟨#[]⟩, .bool false, .bool false] rfl (fun pp V' zp hb hp => ⟨⟨hA.on HN.out.1 hb, fun _ => trivial, fun _ => trivial⟩, ?_⟩)
        simp only [Act.put, List.setIfInBounds_toArray, List.set_cons_zero, List.set_cons_succ]
        have lp := Nat.le_trans hA.2.2.size hp; clear hp
        have hAn := hA.on HN.out.1 hb; clear hA; have hA := hAn; clear hAn
        clear hb
        refine ready_all [3] (by kernel_rfl) rfl (steps_cons ?_ (steps_nil))
        refine step_call 3 rfl (fun KK hK => ?_)
        go_simp
        go_wp2_with (first | (go_at_call 27; refine (C2.out _).mono ?_; rintro e V' ⟨rfl, hb⟩))
        refine hK.out _ _ ⟨hA.on HN.out.1 hb, fun _ => trivial, fun _ => trivial⟩ ?_
        clear hK KK
        have hAn := hA.on HN.out.1 hb; clear hA; have hA := hAn; clear hAn
        have zn := blkKeep hb zp; clear zp; have zp := zn; clear zn
        clear hb
        refine ready_all [4] (by kernel_rfl) rfl (steps_cons ?_ (steps_nil))
        refine step_call 4 rfl (fun KK hK => ?_)
        go_simp
        go_wp2_with (first | (go_at_call 31; refine (C5.out _).mono ?_; rintro e V' ⟨rfl, hb⟩))
        refine hK.out _ _ ⟨hA.on HN.out.1 hb, fun _ => trivial, fun _ => trivial⟩ ?_
        clear hK KK
        have hAn := hA.on HN.out.1 hb; clear hA; have hA := hAn; clear hAn
        have zn := blkKeep hb zp; clear zp; have zp := zn; clear zn
        clear hb
        refine ready_all [6] (by kernel_rfl) rfl (steps_cons ?_ (steps_nil))
        obtain ⟨V', hst, hE, hBs, hoth, _⟩ := store_en F zp rfl lp hA.2.2
        have hAn := hA.st HN.out.1 lp hoth hBs
        refine step_store 6 rfl rfl 54 _ _ rfl _ _ rfl rfl hst ⟨hAn, fun _ => trivial, fun _ => trivial⟩ ?_
        simp only [Act.put]
        clear hA hst; have hA := hAn; clear hAn
        refine done_ph (by kernel_rfl) ?_ _
        refine NoPanic.normal ?_
        go_wp2_with fail
        go_meet
        case rel => exact ⟨pp, rfl, hA, hE, lp⟩
    · refine step_alloc 5 rfl rfl 54 rfl #[.string ⟨#[]⟩, .bool false, .bool false] rfl (fun pp V' zp hb hp => ⟨⟨hA.on HN.out.1 hb, fun _ => trivial, fun _ => trivial⟩, ?_⟩)
      simp only [Act.put, List.setIfInBounds_toArray, List.set_cons_zero, List.set_cons_succ]
      have lp := Nat.le_trans hA.2.2.size hp; clear hp
      have hAn := hA.on HN.out.1 hb; clear hA; have hA := hAn; clear hAn
      clear hb
      refine ready_all [1] (by kernel_rfl) rfl (steps_cons ?_ (steps_nil))
      refine step_call 1 rfl (fun KK hK => ?_)
      go_simp
      go_wp2_with (first | (go_at_call 27; refine (C1.out _).mono ?_; rintro e V' ⟨rfl, hb⟩))
      refine hK.out _ _ ⟨hA.on HN.out.1 hb, fun _ => trivial, fun _ => trivial⟩ ?_
      clear hK KK
      have hAn := hA.on HN.out.1 hb; clear hA; have hA := hAn; clear hAn
      have zn := blkKeep hb zp; clear zp; have zp := zn; clear zn
      clear hb
      refine ready_all [3] (by kernel_rfl) rfl (steps_cons ?_ (steps_nil))
      refine step_call 3 rfl (fun KK hK => ?_)
      go_simp
      go_wp2_with (first | (go_at_call 27; refine (C2.out _).mono ?_; rintro e V' ⟨rfl, hb⟩))
      refine hK.out _ _ ⟨hA.on HN.out.1 hb, fun _ => trivial, fun _ => trivial⟩ ?_
      clear hK KK
      have hAn := hA.on HN.out.1 hb; clear hA; have hA := hAn; clear hAn
      have zn := blkKeep hb zp; clear zp; have zp := zn; clear zn
      clear hb
      refine ready_all [4] (by kernel_rfl) rfl (steps_cons ?_ (steps_nil))
      refine step_call 4 rfl (fun KK hK => ?_)
      go_simp
      go_wp2_with (first | (go_at_call 31; refine (C5.out _).mono ?_; rintro e V' ⟨rfl, hb⟩))
      refine hK.out _ _ ⟨hA.on HN.out.1 hb, fun _ => trivial, fun _ => trivial⟩ ?_
      clear hK KK
      have hAn := hA.on HN.out.1 hb; clear hA; have hA := hAn; clear hAn
      have zn := blkKeep hb zp; clear zp; have zp := zn; clear zn
      clear hb
      refine ready_all [6] (by kernel_rfl) rfl (steps_cons ?_ (steps_nil))
      obtain ⟨V', hst, hE, hBs, hoth, _⟩ := store_en F zp rfl lp hA.2.2
      have hAn := hA.st HN.out.1 lp hoth hBs
      refine step_store 6 rfl rfl 54 _ _ rfl _ _ rfl rfl hst ⟨hAn, fun _ => trivial, fun _ => trivial⟩ ?_
      simp only [Act.put]
      clear hA hst; have hA := hAn; clear hAn
      refine done_ph (by kernel_rfl) ?_ _
      refine NoPanic.normal ?_
      go_wp2_with fail
      go_meet
      case rel => exact ⟨pp, rfl, hA, hE, lp⟩
  case rest =>
    clear R1 R2
    obtain ⟨p, rfl, HX⟩ := hcut
    obtain ⟨W1, rfl⟩ : ∃ W1, W1 = wc := ⟨_, rfl⟩
    have HN1 : Hid (n + 1 < W1.heap.size ∧ n + 1 + 1 < W1.heap.size) := by
      have h1 := HX.out.1.2.2.size
      have h2 := HN.out
      exact ⟨by omega, by omega⟩
    have HT1 : Hid (Two W1 n a b W1) := ⟨HX.out.1.1, HX.out.1.2.1, Below.refl _ _⟩
    have HR1 : Hid (W1.heap[n + 1 + 1]? = some (.cells #[.string ⟨#[]⟩, .string ⟨#[]⟩, .bool false, .bool false, .bool false, .bool false] 24 (0, 0))) := (HX.out.1.2.2.block _ HN.out.2).trans HR3.out
    have HB1 : Hid (Below n w W1) := HBW.out.trans (HX.out.1.2.2.mono (by have := HN.out; omega))
    have HE1 : Hid (EnAt W1 p F) := HX.out.2.1
    have HLp : Hid (n + 1 + 1 < p) := by have h1 := HX.out.2.2; have h2 := HN.out.2; show _ < _; omega
    have HNn := Lib.hid hn
    clear HX HN HT0 HR3 HBW hsz hn C1 C2 C5
    go_upto_region 2 with fail
    go_cut [6] from 12 to 16 (fun p6 wx => ∃ q, p6 = .pointer (some ⟨q, 0, none⟩) ∧ Hid (Two W1 n a b wx ∧ EnAt wx q T ∧ W1.heap.size ≤ q))
    case first =>
      have HN := HN1
      have HTD : Hid (Two W1 n a b W1.drew) := HT1.out.on HN.out.1 (below_drew W1)
      have FA : Hid (∀ V, Two W1 n a b V → RgAt V n a) := fun V h => h.1
      have FB : Hid (∀ V, Two W1 n a b V → RgAt V (n + 1) b) := fun V h => h.2.1
      unfold RgAt at FA FB
      refine wp_region_noPanic ?_
      refine region_ph (A := (Two W1 n a b)) (e1 := 9999) (B := fun _ => True) (e2 := 9999) (C := fun _ => True) (by kernel_rfl) ⟨HTD.out, fun _ => trivial, fun _ => trivial⟩ (fun hSt => ?_)
      have hA := hSt.1
      refine take_ph 0 (.agg #[.string a.f, .string a.t, .bool a.hf, .bool a.ht, .bool a.pf, .bool a.pt]) [] rfl (by kernel_rfl) (fun _ _ _ h => h) (Or.inl ⟨by rfl, ?_⟩) hSt (fun hSn => ?_)
      · rintro V ⟨hh, _, _⟩; have e0 := FA.out V hh; clear hh; go_simp
      clear hSt; rename Ph _ _ _ _ _ _ _ => hSt
      simp only [Act.put, List.setIfInBounds_toArray, List.set_cons_zero, List.set_cons_succ]
      refine take_ph 2 (.agg #[.string b.f, .string b.t, .bool b.hf, .bool b.ht, .bool b.pf, .bool b.pt]) [] rfl (by kernel_rfl) (fun _ _ _ h => h) (Or.inl ⟨by rfl, ?_⟩) hSt (fun hSn => ?_)
      · rintro V ⟨hh, _, _⟩; have e0 := FB.out V hh; clear hh; go_simp
      clear hSt; rename Ph _ _ _ _ _ _ _ => hSt
      simp only [Act.put, List.setIfInBounds_toArray, List.set_cons_zero, List.set_cons_succ]
      clear hSt
      refine ready_all [1, 5] (by kernel_rfl) rfl (steps_cons ?_ (steps_cons ?_ (steps_nil)))
      · refine step_call 1 rfl (fun KK hK => ?_)
        go_simp
        go_wp2_with (first | (go_at_call 28; refine (C3.out _).mono ?_; rintro e V' ⟨rfl, hb⟩))
        refine hK.out _ _ ⟨hA.on HN.out.1 hb, fun _ => trivial, fun _ => trivial⟩ ?_
        clear hK KK
        have hAn := hA.on HN.out.1 hb; clear hA; have hA := hAn; clear hAn
        clear hb
        refine ready_all [3, 5] (by kernel_rfl) rfl (steps_cons ?_ (steps_cons ?_ (steps_nil)))
        · refine step_call 3 rfl (fun KK hK => ?_)
          go_simp
          go_wp2_with (first | (go_at_call 28; refine (C4.out _).mono ?_; rintro e V' ⟨rfl, hb⟩))
          refine hK.out _ _ ⟨hA.on HN.out.1 hb, fun _ => trivial, fun _ => trivial⟩ ?_
          clear hK KK
          have hAn := hA.on HN.out.1 hb; clear hA; have hA := hAn; clear hAn
          clear hb
          refine ready_all [4, 5] (by kernel_rfl) rfl (steps_cons ?_ (steps_cons ?_ (steps_nil)))
          · refine step_call 4 rfl (fun KK hK => ?_)
            go_simp
            go_wp2_with (first | (go_at_call 31; refine (C6.out _).mono ?_; rintro e V' ⟨rfl, hb⟩))
            refine hK.out _ _ ⟨hA.on HN.out.1 hb, fun _ => trivial, fun _ => trivial⟩ ?_
            clear hK KK
            have hAn := hA.on HN.out.1 hb; clear hA; have hA := hAn; clear hAn
            clear hb
            refine ready_all [5] (by kernel_rfl) rfl (steps_cons ?_ (steps_nil))
            refine step_alloc 5 rfl rfl 54 rfl #[.string ⟨#[]⟩, .bool false, .bool false] rfl (fun pp V' zp hb hp => ⟨⟨hA.on HN.out.1 hb, fun _ => trivial, fun _ => trivial⟩, ?_⟩)
            simp only [Act.put, List.setIfInBounds_toArray, List.set_cons_zero, List.set_cons_succ]
            have lp := Nat.le_trans hA.2.2.size hp; clear hp
            have hAn := hA.on HN.out.1 hb; clear hA; have hA := hAn; clear hAn
            clear hb
            refine ready_all [6] (by kernel_rfl) rfl (steps_cons ?_ (steps_nil))
            obtain ⟨V', hst, hE, hBs, hoth, _⟩ := store_en T zp rfl lp hA.2.2
            have hAn := hA.st HN.out.1 lp hoth hBs
            refine step_store 6 rfl rfl 54 _ _ rfl _ _ rfl rfl hst ⟨hAn, fun _ => trivial, fun _ => trivial⟩ ?_
            simp only [Act.put]
            clear hA hst; have hA := hAn; clear hAn
            refine done_ph (by kernel_rfl) ?_ _
            refine NoPanic.normal ?_
            go_wp2_with fail
            go_meet
            case rel => exact ⟨pp, rfl, hA, hE, lp⟩
          · refine step_alloc 5 rfl rfl 54 rfl #[.string ⟨#[]⟩, .bool false, .bool false] rfl (fun pp V' zp hb hp => ⟨⟨hA.on HN.out.1 hb, fun _ => trivial, fun _ => trivial⟩, ?_⟩)
            simp only [Act.put, List.setIfInBounds_toArray, List.set_cons_zero, List.set_cons_succ]
            have lp := Nat.le_trans hA.2.2.size hp; clear hp
            have hAn := hA.on HN.out.1 hb; clear hA; have hA := hAn; clear hAn
            clear hb
            refine ready_all [4] (by kernel_rfl) rfl (steps_cons ?_ (steps_nil))
            refine step_call 4 rfl (fun KK hK => ?_)
            go_simp
            go_wp2_with (first | (go_at_call 31; refine (C6.out _).mono ?_; rintro e V' ⟨rfl, hb⟩))
            refine hK.out _ _ ⟨hA.on HN.out.1 hb, fun _ => trivial, fun _ => trivial⟩ ?_
            clear hK KK
            have hAn := hA.on HN.out.1 hb; clear hA; have hA := hAn; clear hAn
            have zn := blkKeep hb zp; clear zp; have zp := zn; clear zn
            clear hb
            refine ready_all [6] (by kernel_rfl) rfl (steps_cons ?_ (steps_nil))
            obtain ⟨V', hst, hE, hBs, hoth, _⟩ := store_en T zp rfl lp hA.2.2
            have hAn := hA.st HN.out.1 lp hoth hBs
            refine step_store 6 rfl rfl 54 _ _ rfl _ _ rfl rfl hst ⟨hAn, fun _ => trivial, fun _ => trivial⟩ ?_
            simp only [Act.put]
            clear hA hst; have hA := hAn; clear hAn
            refine done_ph (by kernel_rfl) ?_ _
            refine NoPanic.normal ?_
            go_wp2_with fail
            go_meet
            case rel => exact ⟨pp, rfl, hA, hE, lp⟩
        · refine step_alloc 5 rfl rfl 54 rfl #[.string ⟨#[]⟩, .bool false, .bool false] rfl (fun pp V' zp hb hp => ⟨⟨hA.on HN.out.1 hb, fun _ => trivial, fun _ => trivial⟩, ?_⟩)
          simp only [Act.put, List.setIfInBounds_toArray, List.set_cons_zero, List.set_cons_succ]
          have lp := Nat.le_trans hA.2.2.size hp; clear hp
          have hAn := hA.on HN.out.1 hb; clear hA; have hA := hAn; clear hAn
          clear hb
          refine ready_all [3] (by kernel_rfl) rfl (steps_cons ?_ (steps_nil))
          refine step_call 3 rfl (fun KK hK => ?_)
          go_simp
          go_wp2_with (first | (go_at_call 28; refine (C4.out _).mono ?_; rintro e V' ⟨rfl, hb⟩))
          refine hK.out _ _ ⟨hA.on HN.out.1 hb, fun _ => trivial, fun _ => trivial⟩ ?_
          clear hK KK
          have hAn := hA.on HN.out.1 hb; clear hA; have hA := hAn; clear hAn
          have zn := blkKeep hb zp; clear zp; have zp := zn; clear zn
          clear hb
          refine ready_all [4] (by kernel_rfl) rfl (steps_cons ?_ (steps_nil))
          refine step_call 4 rfl (fun KK hK => ?_)
          go_simp
          go_wp2_with (first | (go_at_call 31; refine (C6.out _).mono ?_; rintro e V' ⟨rfl, hb⟩))
          refine hK.out _ _ ⟨hA.on HN.out.1 hb, fun _ => trivial, fun _ => trivial⟩ ?_
          clear hK KK
          have hAn := hA.on HN.out.1 hb; clear hA; have hA := hAn; clear hAn
          have zn := blkKeep hb zp; clear zp; have zp := zn; clear zn
          clear hb
          refine ready_all [6] (by kernel_rfl) rfl (steps_cons ?_ (steps_nil))
          obtain ⟨V', hst, hE, hBs, hoth, _⟩ := store_en T zp rfl lp hA.2.2
          have hAn := hA.st HN.out.1 lp hoth hBs
          refine step_store 6 rfl rfl 54 _ _ rfl _ _ rfl rfl hst ⟨hAn, fun _ => trivial, fun _ => trivial⟩ ?_
          simp only [Act.put]
          clear hA hst; have hA := hAn; clear hAn
          refine done_ph (by kernel_rfl) ?_ _
          refine NoPanic.normal ?_
          go_wp2_with fail
          go_meet
          case rel => exact ⟨pp, rfl, hA, hE, lp⟩
      · refine step_alloc 5 rfl rfl 54 rfl #[.string ⟨#[]⟩, .bool false, .bool false] rfl (fun pp V' zp hb hp => ⟨⟨hA.on HN.out.1 hb, fun _ => trivial, fun _ => trivial⟩, ?_⟩)
        simp only [Act.put, List.setIfInBounds_toArray, List.set_cons_zero, List.set_cons_succ]
        have lp := Nat.le_trans hA.2.2.size hp; clear hp
        have hAn := hA.on HN.out.1 hb; clear hA; have hA := hAn; clear hAn
        clear hb
        refine ready_all [1] (by kernel_rfl) rfl (steps_cons ?_ (steps_nil))
        refine step_call 1 rfl (fun KK hK => ?_)
        go_simp
        go_wp2_with (first | (go_at_call 28; refine (C3.out _).mono ?_; rintro e V' ⟨rfl, hb⟩))
        refine hK.out _ _ ⟨hA.on HN.out.1 hb, fun _ => trivial, fun _ => trivial⟩ ?_
        clear hK KK
        have hAn := hA.on HN.out.1 hb; clear hA; have hA := hAn; clear hAn
        have zn := blkKeep hb zp; clear zp; have zp := zn; clear zn
        clear hb
        refine ready_all [3] (by kernel_rfl) rfl (steps_cons ?_ (steps_nil))
        refine step_call 3 rfl (fun KK hK => ?_)
        go_simp
        go_wp2_with (first | (go_at_call 28; refine (C4.out _).mono ?_; rintro e V' ⟨rfl, hb⟩))
        refine hK.out _ _ ⟨hA.on HN.out.1 hb, fun _ => trivial, fun _ => trivial⟩ ?_
        clear hK KK
        have hAn := hA.on HN.out.1 hb; clear hA; have hA := hAn; clear hAn
        have zn := blkKeep hb zp; clear zp; have zp := zn; clear zn
        clear hb
        refine ready_all [4] (by kernel_rfl) rfl (steps_cons ?_ (steps_nil))
        refine step_call 4 rfl (fun KK hK => ?_)
        go_simp
        go_wp2_with (first | (go_at_call 31; refine (C6.out _).mono ?_; rintro e V' ⟨rfl, hb⟩))
        refine hK.out _ _ ⟨hA.on HN.out.1 hb, fun _ => trivial, fun _ => trivial⟩ ?_
        clear hK KK
        have hAn := hA.on HN.out.1 hb; clear hA; have hA := hAn; clear hAn
        have zn := blkKeep hb zp; clear zp; have zp := zn; clear zn
        clear hb
        refine ready_all [6] (by kernel_rfl) rfl (steps_cons ?_ (steps_nil))
        obtain ⟨V', hst, hE, hBs, hoth, _⟩ := store_en T zp rfl lp hA.2.2
        have hAn := hA.st HN.out.1 lp hoth hBs
        refine step_store 6 rfl rfl 54 _ _ rfl _ _ rfl rfl hst ⟨hAn, fun _ => trivial, fun _ => trivial⟩ ?_
        simp only [Act.put]
        clear hA hst; have hA := hAn; clear hAn
        refine done_ph (by kernel_rfl) ?_ _
        refine NoPanic.normal ?_
        go_wp2_with fail
        go_meet
        case rel => exact ⟨pp, rfl, hA, hE, lp⟩
    case rest =>
      obtain ⟨q, rfl, HX⟩ := hcut
      obtain ⟨W2, rfl⟩ : ∃ W2, W2 = wc := ⟨_, rfl⟩
      have hE1 : EnAt W2 p F := HE1.out.on HX.out.1.2.2
      have hR2 := (HX.out.1.2.2.block _ HN1.out.2).trans HR1.out
      obtain ⟨c0, c1, c2⟩ := hE1.cells
      obtain ⟨d0, d1, d2⟩ := HX.out.2.1.cells
      obtain ⟨V, hst, hRg, hB, _⟩ := store_rg (N := n) (w := w) (joinR F T) hR2 rfl (by omega) (HB1.out.trans (HX.out.1.2.2.mono (by have := HN1.out; omega)))
      obtain ⟨g0, g1, g2, g3, g4, g5⟩ := hRg
      have HB := Lib.hid hB
      clear hB hE1 hR2 HX HE1 HR1 HN1 HT1 HB1 HLp C3 C4 C6
      unfold joinR at *
      dsimp only at *
      go_wp2_with (first | (refine wpList_store_at rfl _ _ _ rfl _ _ rfl rfl hst ?_; clear hst) | fail)
      refine bodyPost_ret (v := .agg #[.string F.t, .string T.t, .bool F.h, .bool T.h, .bool F.o, .bool T.o]) ?_ rfl ⟨rfl, by rw [HNn.out]; exact HB.out⟩
      rw [results_cell rfl]
      go_simp
set_option maxRecDepth 100000 in
theorem one_ (k : ByteArray) (w : World) : Calls Try.prog 17 #[.string k] w fun e w' => e = .returned (rgV (oneR k)) ∧ Below w.heap.size w w' := by
  obtain ⟨V, hst, hRg, hB, _⟩ := store_rg (oneR k) (new_blk w (.cells #[.string ⟨#[]⟩, .string ⟨#[]⟩, .bool false, .bool false, .bool false, .bool false] 24)) rfl (Nat.le_refl _) (below_alloc w _)
  obtain ⟨g0, g1, g2, g3, g4, g5⟩ := hRg
  have HB := Lib.hid hB
  clear hB
  unfold rgV
  unfold oneR at *
  dsimp only at *
  go_enter Try.func17, Try.ntmps17
  go_wp2_with (first | (refine wpList_store_at rfl _ _ _ rfl _ _ rfl rfl hst ?_; clear hst) | fail)
  refine bodyPost_ret (v := .agg #[.string k, .string k, .bool true, .bool true, .bool false, .bool false]) ?_ rfl ⟨rfl, HB.out⟩
  rw [results_cell rfl]
  go_simp
set_option maxRecDepth 100000 in
theorem pfx_ (s : ByteArray) (w : World) (hs : s.size ≤ 140737488355328) : Calls Try.prog 15 #[.string s] w fun e w' => e = .returned (rgV (pfxR s)) ∧ Below w.heap.size w w' := by
  have HN : Hid (∀ W, Calls Try.prog 32 #[.string s] W fun e w' => e = .returned (nxtV s.data.toList) ∧ Below W.heap.size W w') := fun W => next_ s W hs
  obtain ⟨T, b, e1, e2⟩ : ∃ (T : ByteArray) (b : Bool), nxtV s.data.toList = .tuple #[.string T, .bool b] ∧ pfxR s = ⟨s, T, true, b, false, b⟩ := by
    unfold nxtV pfxR
    cases nxt s.data.toList with
    | none => exact ⟨_, _, rfl, rfl⟩
    | some t => exact ⟨_, _, rfl, rfl⟩
  rw [e1] at HN
  rw [e2]
  have HW := Lib.hid (new_blk w (.cells #[.string ⟨#[]⟩, .string ⟨#[]⟩, .bool false, .bool false, .bool false, .bool false] 24))
  have HB0 := Lib.hid (below_alloc w (.cells #[.string ⟨#[]⟩, .string ⟨#[]⟩, .bool false, .bool false, .bool false, .bool false] 24))
  clear e1 e2
  unfold rgV
  dsimp only
  go_enter Try.func15, Try.ntmps15
  go_upto_region 1 with fail
  generalize (w.alloc (.cells #[.string ⟨#[]⟩, .string ⟨#[]⟩, .bool false, .bool false, .bool false, .bool false] 24)) = W0 at *
  go_wp2_with (first
    | (go_at_call 32; refine (HN.out _).mono ?_; rintro e w' ⟨rfl, hb⟩
       obtain ⟨V, hst, hRg, hB, _⟩ := store_rg ⟨s, T, true, b, false, b⟩ (blkKeep hb HW.out) rfl (Nat.le_refl _) (below_step HB0.out hb)
       obtain ⟨g0, g1, g2, g3, g4, g5⟩ := hRg
       have HB := Lib.hid hB
       clear hB hb)
    | (refine wpList_store_at rfl _ _ _ rfl _ _ rfl rfl hst ?_; clear hst) | fail)
  refine bodyPost_ret (v := .agg #[.string s, .string T, .bool true, .bool b, .bool false, .bool b]) ?_ rfl ⟨rfl, HB.out⟩
  rw [results_cell rfl]
  go_simp
end Go.Proofs.Yteeojhmdefhlmaa
