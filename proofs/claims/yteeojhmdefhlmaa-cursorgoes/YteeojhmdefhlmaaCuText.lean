/- Text: a range told. -/
import Derived.Test.YteeojhmdefhlmaaCuMeet
import Derived.Test.YteeojhmdefhlmaaCuDig
namespace Go.Proofs.Yteeojhmdefhlmaa
open Go.RowKit Go.Sort

/-- A range told, as bytes. -/
def opnC (e : En) : Nat := if e.h && !e.o then 91 else 40
def shtC (e : En) : Nat := if e.h && !e.o then 93 else 41
def tellE (f t : En) : List Nat := [opnC f] ++ hexL f.t.data.toList ++ [44] ++ hexL t.t.data.toList ++ [shtC t]
def tellR (r : Rg) : ByteArray := bs (tellE (frmE r) (toE r))
/-- A range in memory, and all that is old stays. -/
def Box (W : World) (n : Nat) (r : Rg) (V : World) : Prop := RgAt V n r ∧ Below W.heap.size W V
theorem Box.on {W V V' : World} {n : Nat} {r : Rg} (h : Box W n r V) (hn : n < W.heap.size) (hb : Below V.heap.size V V') : Box W n r V' :=
  ⟨h.1.on hb (by have := h.2.size; omega), below_step h.2 hb⟩
theorem Box.st {W V V' : World} {n p : Nat} {r : Rg} (h : Box W n r V) (hn : n < W.heap.size) (hp : W.heap.size ≤ p) (hk : ∀ k, k ≠ p → V'.heap[k]? = V.heap[k]?) (hb : Below W.heap.size W V') : Box W n r V' :=
  ⟨h.1.same (hk n (by omega)), hb⟩
theorem own_one (W : World) (N c : Nat) (hN : N ≤ W.heap.size) : OwnB (W.alloc (.cells #[.int .u8 (c : Int)] 5)) N (.slice (some ⟨W.heap.size, 0, none⟩) 1 1) [c] :=
  ⟨by simp [vals], .inr ⟨W.heap.size, 1, _, rfl, hN, new_blk W _, Nat.le_refl _, by unfold maxLen; omega, rfl, rfl⟩⟩
theorem en_size (r : Rg) : (frmE r).t.size ≤ r.f.size ∧ (toE r).t.size ≤ r.t.size := by
  unfold frmE toE
  constructor
  · cases r.hf
    · exact Nat.zero_le _
    · exact Nat.le_refl _
  · cases r.ht
    · exact Nat.zero_le _
    · exact Nat.le_refl _
theorem one_new (w : World) (c : Nat) : BytesIn (w.alloc (.cells #[.int .u8 (c : Int)] 5)) (some ⟨w.heap.size, 0, none⟩) [c] := one_in (by simp [go_sem])
set_option maxRecDepth 100000 in
set_option maxHeartbeats 2000000 in
theorem text_ (r : Rg) (w : World) (hlen : 2 * r.f.size + 2 * r.t.size + 3 ≤ 140737488355328) : Calls Try.prog 11 #[rgV r] w fun e w' => e = .returned (.string (tellR r)) ∧ Below w.heap.size w w' := by
  obtain ⟨e1, he1⟩ : ∃ e, e = frmE r := ⟨_, rfl⟩
  obtain ⟨e2, he2⟩ : ∃ e, e = toE r := ⟨_, rfl⟩
  obtain ⟨R, hR⟩ : ∃ R, R = tellR r := ⟨_, rfl⟩
  have HR : Hid (R = bs (tellE e1 e2)) := by show _ = _; rw [hR, he1, he2]; rfl
  rw [← hR]
  have HL : Hid (2 * e1.t.size + 2 * e2.t.size + 3 ≤ 140737488355328) := by
    have := en_size r
    rw [← he1, ← he2] at this
    show _ ≤ _
    omega
  have C1 : Hid (∀ W, Calls Try.prog 27 #[rgV r] W fun e w' => e = .returned (enV e1) ∧ Below W.heap.size W w') := fun W => by rw [he1]; exact fromOf_ r W
  have C2 : Hid (∀ W, Calls Try.prog 28 #[rgV r] W fun e w' => e = .returned (enV e2) ∧ Below W.heap.size W w') := fun W => by rw [he2]; exact toOf_ r W
  clear hR he1 he2 hlen
  obtain ⟨W0, hW0⟩ : ∃ W0, W0 = w.alloc (.cells #[.string r.f, .string r.t, .bool r.hf, .bool r.ht, .bool r.pf, .bool r.pt] 24) := ⟨_, rfl⟩
  unfold rgV enV at *
  go_enter Try.func11, Try.ntmps11
  go_upto_region 1 with fail
  rw [← hW0]
  have HT0 : Hid (Box W0 w.heap.size r W0) := by rw [hW0]; exact ⟨rgAt_new w r _, Below.refl _ _⟩
  have HBW : Hid (Below w.heap.size w W0) := by show Below _ _ _; rw [hW0]; exact below_alloc w _
  have HN : Hid (w.heap.size < W0.heap.size) := by show _ < _; rw [hW0]; simp [go_sem]
  generalize hn : w.heap.size = n at *
  have HNn := Lib.hid hn
  clear hW0 hn
  go_cut [3, 4] from 6 to 9 (fun p3 p4 wx => ∃ p q, p3 = .pointer (some ⟨p, 0, none⟩) ∧ p4 = .pointer (some ⟨q, 0, none⟩) ∧ Hid (Below W0.heap.size W0 wx ∧ EnAt wx p e1 ∧ EnAt wx q e2))
  case first =>
    have HTD : Hid (Box W0 n r W0.drew) := HT0.out.on HN.out (below_drew W0)
    have FA : Hid (∀ V, Box W0 n r V → RgAt V n r) := fun V h => h.1
    unfold RgAt at FA
    refine wp_region_noPanic ?_
    refine region_ph (A := (Box W0 n r)) (e1 := 9999) (B := fun _ => True) (e2 := 9999) (C := fun _ => True) (by kernel_rfl) ⟨HTD.out, fun _ => trivial, fun _ => trivial⟩ (fun hSt => ?_)
    have hA := hSt.1
    refine take_ph 0 (.agg #[.string r.f, .string r.t, .bool r.hf, .bool r.ht, .bool r.pf, .bool r.pt]) [] rfl (by kernel_rfl) (fun _ _ _ h => h) (Or.inl ⟨by rfl, ?_⟩) hSt (fun hSn => ?_)
    · rintro V ⟨hh, _, _⟩; have e0 := FA.out V hh; clear hh; go_simp
    clear hSt; rename Ph _ _ _ _ _ _ _ => hSt
    simp only [Act.put, List.setIfInBounds_toArray, List.set_cons_zero, List.set_cons_succ]
    refine take_ph 2 (.agg #[.string r.f, .string r.t, .bool r.hf, .bool r.ht, .bool r.pf, .bool r.pt]) [] rfl (by kernel_rfl) (fun _ _ _ h => h) (Or.inl ⟨by rfl, ?_⟩) hSt (fun hSn => ?_)
    · rintro V ⟨hh, _, _⟩; have e0 := FA.out V hh; clear hh; go_simp
    clear hSt; rename Ph _ _ _ _ _ _ _ => hSt
    simp only [Act.put, List.setIfInBounds_toArray, List.set_cons_zero, List.set_cons_succ]
    clear hSt
    refine ready_all [1, 4, 5] (by kernel_rfl) rfl (steps_cons ?_ (steps_cons ?_ (steps_cons ?_ (steps_nil))))
    · refine step_call 1 rfl (fun KK hK => ?_)
      go_simp
      go_wp2_with (first | (go_at_call 27; refine (C1.out _).mono ?_; rintro e V' ⟨rfl, hb⟩))
      refine hK.out _ _ ⟨hA.on HN.out hb, fun _ => trivial, fun _ => trivial⟩ ?_
      clear hK KK
      have hAn := hA.on HN.out hb; clear hA; have hA := hAn; clear hAn
      clear hb
      refine ready_all [3, 4, 5] (by kernel_rfl) rfl (steps_cons ?_ (steps_cons ?_ (steps_cons ?_ (steps_nil))))
      · refine step_call 3 rfl (fun KK hK => ?_)
        go_simp
        go_wp2_with (first | (go_at_call 28; refine (C2.out _).mono ?_; rintro e V' ⟨rfl, hb⟩))
        refine hK.out _ _ ⟨hA.on HN.out hb, fun _ => trivial, fun _ => trivial⟩ ?_
        clear hK KK
        have hAn := hA.on HN.out hb; clear hA; have hA := hAn; clear hAn
        clear hb
        refine ready_all [4, 5] (by kernel_rfl) rfl (steps_cons ?_ (steps_cons ?_ (steps_nil)))
        · refine step_alloc 4 rfl rfl 54 rfl #[.string ⟨#[]⟩, .bool false, .bool false] rfl (fun pp V' zp hb hp => ⟨⟨hA.on HN.out hb, fun _ => trivial, fun _ => trivial⟩, ?_⟩)
          simp only [Act.put, List.setIfInBounds_toArray, List.set_cons_zero, List.set_cons_succ]
          have lp := Nat.le_trans hA.2.size hp
          clear hp
          have hAn := hA.on HN.out hb; clear hA; have hA := hAn; clear hAn
          clear hb
          refine ready_all [5] (by kernel_rfl) rfl (steps_cons ?_ (steps_nil))
          refine step_alloc 5 rfl rfl 54 rfl #[.string ⟨#[]⟩, .bool false, .bool false] rfl (fun pq V' zq hb hp => ⟨⟨hA.on HN.out hb, fun _ => trivial, fun _ => trivial⟩, ?_⟩)
          simp only [Act.put, List.setIfInBounds_toArray, List.set_cons_zero, List.set_cons_succ]
          have lq := Nat.le_trans hA.2.size hp
          have npq : Hid (pp ≠ pq) := fun e => by have := blk_lt zp; omega
          clear hp
          have hAn := hA.on HN.out hb; clear hA; have hA := hAn; clear hAn
          have zn := blkKeep hb zp; clear zp; have zp := zn; clear zn
          clear hb
          refine ready_all [6] (by kernel_rfl) rfl (steps_cons ?_ (steps_nil))
          obtain ⟨V', hst, hE, hBs, hoth, _⟩ := store_en e1 zp rfl lp hA.2
          have hAn := hA.st HN.out lp hoth hBs
          have hne : pq ≠ pp := by rintro rfl; exact npq.out rfl
          have zn := (hoth pq hne).trans zq; clear zq; have zq := zn; clear zn zp hne
          refine step_store 6 rfl rfl 54 _ _ rfl _ _ rfl rfl hst ⟨hAn, fun _ => trivial, fun _ => trivial⟩ ?_
          simp only [Act.put]
          clear hA hst; have hA := hAn; clear hAn
          refine ready_all [7] (by kernel_rfl) rfl (steps_cons ?_ (steps_nil))
          obtain ⟨V', hst, hF, hBs, hoth, _⟩ := store_en e2 zq rfl lq hA.2
          have hAn := hA.st HN.out lq hoth hBs
          have hE2 : EnAt V' pp e1 := (hoth pp npq.out).trans hE
          refine step_store 7 rfl rfl 54 _ _ rfl _ _ rfl rfl hst ⟨hAn, fun _ => trivial, fun _ => trivial⟩ ?_
          simp only [Act.put]
          clear hA hst; have hA := hAn; clear hAn
          refine done_ph (by kernel_rfl) ?_ _
          refine NoPanic.normal ?_
          go_wp2_with fail
          go_meet
          case rel => exact ⟨pp, pq, rfl, rfl, hA.2, hE2, hF⟩
        · refine step_alloc 5 rfl rfl 54 rfl #[.string ⟨#[]⟩, .bool false, .bool false] rfl (fun pq V' zq hb hp => ⟨⟨hA.on HN.out hb, fun _ => trivial, fun _ => trivial⟩, ?_⟩)
          simp only [Act.put, List.setIfInBounds_toArray, List.set_cons_zero, List.set_cons_succ]
          have lq := Nat.le_trans hA.2.size hp
          clear hp
          have hAn := hA.on HN.out hb; clear hA; have hA := hAn; clear hAn
          clear hb
          refine ready_all [4] (by kernel_rfl) rfl (steps_cons ?_ (steps_nil))
          refine step_alloc 4 rfl rfl 54 rfl #[.string ⟨#[]⟩, .bool false, .bool false] rfl (fun pp V' zp hb hp => ⟨⟨hA.on HN.out hb, fun _ => trivial, fun _ => trivial⟩, ?_⟩)
          simp only [Act.put, List.setIfInBounds_toArray, List.set_cons_zero, List.set_cons_succ]
          have lp := Nat.le_trans hA.2.size hp
          have npq : Hid (pp ≠ pq) := fun e => by have := blk_lt zq; omega
          clear hp
          have hAn := hA.on HN.out hb; clear hA; have hA := hAn; clear hAn
          have zn := blkKeep hb zq; clear zq; have zq := zn; clear zn
          clear hb
          refine ready_all [6] (by kernel_rfl) rfl (steps_cons ?_ (steps_nil))
          obtain ⟨V', hst, hE, hBs, hoth, _⟩ := store_en e1 zp rfl lp hA.2
          have hAn := hA.st HN.out lp hoth hBs
          have hne : pq ≠ pp := by rintro rfl; exact npq.out rfl
          have zn := (hoth pq hne).trans zq; clear zq; have zq := zn; clear zn zp hne
          refine step_store 6 rfl rfl 54 _ _ rfl _ _ rfl rfl hst ⟨hAn, fun _ => trivial, fun _ => trivial⟩ ?_
          simp only [Act.put]
          clear hA hst; have hA := hAn; clear hAn
          refine ready_all [7] (by kernel_rfl) rfl (steps_cons ?_ (steps_nil))
          obtain ⟨V', hst, hF, hBs, hoth, _⟩ := store_en e2 zq rfl lq hA.2
          have hAn := hA.st HN.out lq hoth hBs
          have hE2 : EnAt V' pp e1 := (hoth pp npq.out).trans hE
          refine step_store 7 rfl rfl 54 _ _ rfl _ _ rfl rfl hst ⟨hAn, fun _ => trivial, fun _ => trivial⟩ ?_
          simp only [Act.put]
          clear hA hst; have hA := hAn; clear hAn
          refine done_ph (by kernel_rfl) ?_ _
          refine NoPanic.normal ?_
          go_wp2_with fail
          go_meet
          case rel => exact ⟨pp, pq, rfl, rfl, hA.2, hE2, hF⟩
      · refine step_alloc 4 rfl rfl 54 rfl #[.string ⟨#[]⟩, .bool false, .bool false] rfl (fun pp V' zp hb hp => ⟨⟨hA.on HN.out hb, fun _ => trivial, fun _ => trivial⟩, ?_⟩)
        simp only [Act.put, List.setIfInBounds_toArray, List.set_cons_zero, List.set_cons_succ]
        have lp := Nat.le_trans hA.2.size hp
        clear hp
        have hAn := hA.on HN.out hb; clear hA; have hA := hAn; clear hAn
        clear hb
        refine ready_all [3, 5] (by kernel_rfl) rfl (steps_cons ?_ (steps_cons ?_ (steps_nil)))
        · refine step_call 3 rfl (fun KK hK => ?_)
          go_simp
          go_wp2_with (first | (go_at_call 28; refine (C2.out _).mono ?_; rintro e V' ⟨rfl, hb⟩))
          refine hK.out _ _ ⟨hA.on HN.out hb, fun _ => trivial, fun _ => trivial⟩ ?_
          clear hK KK
          have hAn := hA.on HN.out hb; clear hA; have hA := hAn; clear hAn
          have zn := blkKeep hb zp; clear zp; have zp := zn; clear zn
          clear hb
          refine ready_all [5] (by kernel_rfl) rfl (steps_cons ?_ (steps_nil))
          refine step_alloc 5 rfl rfl 54 rfl #[.string ⟨#[]⟩, .bool false, .bool false] rfl (fun pq V' zq hb hp => ⟨⟨hA.on HN.out hb, fun _ => trivial, fun _ => trivial⟩, ?_⟩)
          simp only [Act.put, List.setIfInBounds_toArray, List.set_cons_zero, List.set_cons_succ]
          have lq := Nat.le_trans hA.2.size hp
          have npq : Hid (pp ≠ pq) := fun e => by have := blk_lt zp; omega
          clear hp
          have hAn := hA.on HN.out hb; clear hA; have hA := hAn; clear hAn
          have zn := blkKeep hb zp; clear zp; have zp := zn; clear zn
          clear hb
          refine ready_all [6] (by kernel_rfl) rfl (steps_cons ?_ (steps_nil))
          obtain ⟨V', hst, hE, hBs, hoth, _⟩ := store_en e1 zp rfl lp hA.2
          have hAn := hA.st HN.out lp hoth hBs
          have hne : pq ≠ pp := by rintro rfl; exact npq.out rfl
          have zn := (hoth pq hne).trans zq; clear zq; have zq := zn; clear zn zp hne
          refine step_store 6 rfl rfl 54 _ _ rfl _ _ rfl rfl hst ⟨hAn, fun _ => trivial, fun _ => trivial⟩ ?_
          simp only [Act.put]
          clear hA hst; have hA := hAn; clear hAn
          refine ready_all [7] (by kernel_rfl) rfl (steps_cons ?_ (steps_nil))
          obtain ⟨V', hst, hF, hBs, hoth, _⟩ := store_en e2 zq rfl lq hA.2
          have hAn := hA.st HN.out lq hoth hBs
          have hE2 : EnAt V' pp e1 := (hoth pp npq.out).trans hE
          refine step_store 7 rfl rfl 54 _ _ rfl _ _ rfl rfl hst ⟨hAn, fun _ => trivial, fun _ => trivial⟩ ?_
          simp only [Act.put]
          clear hA hst; have hA := hAn; clear hAn
          refine done_ph (by kernel_rfl) ?_ _
          refine NoPanic.normal ?_
          go_wp2_with fail
          go_meet
          case rel => exact ⟨pp, pq, rfl, rfl, hA.2, hE2, hF⟩
        · refine step_alloc 5 rfl rfl 54 rfl #[.string ⟨#[]⟩, .bool false, .bool false] rfl (fun pq V' zq hb hp => ⟨⟨hA.on HN.out hb, fun _ => trivial, fun _ => trivial⟩, ?_⟩)
          simp only [Act.put, List.setIfInBounds_toArray, List.set_cons_zero, List.set_cons_succ]
          have lq := Nat.le_trans hA.2.size hp
          have npq : Hid (pp ≠ pq) := fun e => by have := blk_lt zp; omega
          clear hp
          have hAn := hA.on HN.out hb; clear hA; have hA := hAn; clear hAn
          have zn := blkKeep hb zp; clear zp; have zp := zn; clear zn
          clear hb
          refine ready_all [3] (by kernel_rfl) rfl (steps_cons ?_ (steps_nil))
          refine step_call 3 rfl (fun KK hK => ?_)
          go_simp
          go_wp2_with (first | (go_at_call 28; refine (C2.out _).mono ?_; rintro e V' ⟨rfl, hb⟩))
          refine hK.out _ _ ⟨hA.on HN.out hb, fun _ => trivial, fun _ => trivial⟩ ?_
          clear hK KK
          have hAn := hA.on HN.out hb; clear hA; have hA := hAn; clear hAn
          have zn := blkKeep hb zp; clear zp; have zp := zn; clear zn
          have zn := blkKeep hb zq; clear zq; have zq := zn; clear zn
          clear hb
          refine ready_all [6] (by kernel_rfl) rfl (steps_cons ?_ (steps_nil))
          obtain ⟨V', hst, hE, hBs, hoth, _⟩ := store_en e1 zp rfl lp hA.2
          have hAn := hA.st HN.out lp hoth hBs
          have hne : pq ≠ pp := by rintro rfl; exact npq.out rfl
          have zn := (hoth pq hne).trans zq; clear zq; have zq := zn; clear zn zp hne
          refine step_store 6 rfl rfl 54 _ _ rfl _ _ rfl rfl hst ⟨hAn, fun _ => trivial, fun _ => trivial⟩ ?_
          simp only [Act.put]
          clear hA hst; have hA := hAn; clear hAn
          refine ready_all [7] (by kernel_rfl) rfl (steps_cons ?_ (steps_nil))
          obtain ⟨V', hst, hF, hBs, hoth, _⟩ := store_en e2 zq rfl lq hA.2
          have hAn := hA.st HN.out lq hoth hBs
          have hE2 : EnAt V' pp e1 := (hoth pp npq.out).trans hE
          refine step_store 7 rfl rfl 54 _ _ rfl _ _ rfl rfl hst ⟨hAn, fun _ => trivial, fun _ => trivial⟩ ?_
          simp only [Act.put]
          clear hA hst; have hA := hAn; clear hAn
          refine done_ph (by kernel_rfl) ?_ _
          refine NoPanic.normal ?_
          go_wp2_with fail
          go_meet
          case rel => exact ⟨pp, pq, rfl, rfl, hA.2, hE2, hF⟩
      · refine step_alloc 5 rfl rfl 54 rfl #[.string ⟨#[]⟩, .bool false, .bool false] rfl (fun pq V' zq hb hp => ⟨⟨hA.on HN.out hb, fun _ => trivial, fun _ => trivial⟩, ?_⟩)
        simp only [Act.put, List.setIfInBounds_toArray, List.set_cons_zero, List.set_cons_succ]
        have lq := Nat.le_trans hA.2.size hp
        clear hp
        have hAn := hA.on HN.out hb; clear hA; have hA := hAn; clear hAn
        clear hb
        refine ready_all [3, 4] (by kernel_rfl) rfl (steps_cons ?_ (steps_cons ?_ (steps_nil)))
        · refine step_call 3 rfl (fun KK hK => ?_)
          go_simp
          go_wp2_with (first | (go_at_call 28; refine (C2.out _).mono ?_; rintro e V' ⟨rfl, hb⟩))
          refine hK.out _ _ ⟨hA.on HN.out hb, fun _ => trivial, fun _ => trivial⟩ ?_
          clear hK KK
          have hAn := hA.on HN.out hb; clear hA; have hA := hAn; clear hAn
          have zn := blkKeep hb zq; clear zq; have zq := zn; clear zn
          clear hb
          refine ready_all [4] (by kernel_rfl) rfl (steps_cons ?_ (steps_nil))
          refine step_alloc 4 rfl rfl 54 rfl #[.string ⟨#[]⟩, .bool false, .bool false] rfl (fun pp V' zp hb hp => ⟨⟨hA.on HN.out hb, fun _ => trivial, fun _ => trivial⟩, ?_⟩)
          simp only [Act.put, List.setIfInBounds_toArray, List.set_cons_zero, List.set_cons_succ]
          have lp := Nat.le_trans hA.2.size hp
          have npq : Hid (pp ≠ pq) := fun e => by have := blk_lt zq; omega
          clear hp
          have hAn := hA.on HN.out hb; clear hA; have hA := hAn; clear hAn
          have zn := blkKeep hb zq; clear zq; have zq := zn; clear zn
          clear hb
          refine ready_all [6] (by kernel_rfl) rfl (steps_cons ?_ (steps_nil))
          obtain ⟨V', hst, hE, hBs, hoth, _⟩ := store_en e1 zp rfl lp hA.2
          have hAn := hA.st HN.out lp hoth hBs
          have hne : pq ≠ pp := by rintro rfl; exact npq.out rfl
          have zn := (hoth pq hne).trans zq; clear zq; have zq := zn; clear zn zp hne
          refine step_store 6 rfl rfl 54 _ _ rfl _ _ rfl rfl hst ⟨hAn, fun _ => trivial, fun _ => trivial⟩ ?_
          simp only [Act.put]
          clear hA hst; have hA := hAn; clear hAn
          refine ready_all [7] (by kernel_rfl) rfl (steps_cons ?_ (steps_nil))
          obtain ⟨V', hst, hF, hBs, hoth, _⟩ := store_en e2 zq rfl lq hA.2
          have hAn := hA.st HN.out lq hoth hBs
          have hE2 : EnAt V' pp e1 := (hoth pp npq.out).trans hE
          refine step_store 7 rfl rfl 54 _ _ rfl _ _ rfl rfl hst ⟨hAn, fun _ => trivial, fun _ => trivial⟩ ?_
          simp only [Act.put]
          clear hA hst; have hA := hAn; clear hAn
          refine done_ph (by kernel_rfl) ?_ _
          refine NoPanic.normal ?_
          go_wp2_with fail
          go_meet
          case rel => exact ⟨pp, pq, rfl, rfl, hA.2, hE2, hF⟩
        · refine step_alloc 4 rfl rfl 54 rfl #[.string ⟨#[]⟩, .bool false, .bool false] rfl (fun pp V' zp hb hp => ⟨⟨hA.on HN.out hb, fun _ => trivial, fun _ => trivial⟩, ?_⟩)
          simp only [Act.put, List.setIfInBounds_toArray, List.set_cons_zero, List.set_cons_succ]
          have lp := Nat.le_trans hA.2.size hp
          have npq : Hid (pp ≠ pq) := fun e => by have := blk_lt zq; omega
          clear hp
          have hAn := hA.on HN.out hb; clear hA; have hA := hAn; clear hAn
          have zn := blkKeep hb zq; clear zq; have zq := zn; clear zn
          clear hb
          refine ready_all [3] (by kernel_rfl) rfl (steps_cons ?_ (steps_nil))
          refine step_call 3 rfl (fun KK hK => ?_)
          go_simp
          go_wp2_with (first | (go_at_call 28; refine (C2.out _).mono ?_; rintro e V' ⟨rfl, hb⟩))
          refine hK.out _ _ ⟨hA.on HN.out hb, fun _ => trivial, fun _ => trivial⟩ ?_
          clear hK KK
          have hAn := hA.on HN.out hb; clear hA; have hA := hAn; clear hAn
          have zn := blkKeep hb zq; clear zq; have zq := zn; clear zn
          have zn := blkKeep hb zp; clear zp; have zp := zn; clear zn
          clear hb
          refine ready_all [6] (by kernel_rfl) rfl (steps_cons ?_ (steps_nil))
          obtain ⟨V', hst, hE, hBs, hoth, _⟩ := store_en e1 zp rfl lp hA.2
          have hAn := hA.st HN.out lp hoth hBs
          have hne : pq ≠ pp := by rintro rfl; exact npq.out rfl
          have zn := (hoth pq hne).trans zq; clear zq; have zq := zn; clear zn zp hne
          refine step_store 6 rfl rfl 54 _ _ rfl _ _ rfl rfl hst ⟨hAn, fun _ => trivial, fun _ => trivial⟩ ?_
          simp only [Act.put]
          clear hA hst; have hA := hAn; clear hAn
          refine ready_all [7] (by kernel_rfl) rfl (steps_cons ?_ (steps_nil))
          obtain ⟨V', hst, hF, hBs, hoth, _⟩ := store_en e2 zq rfl lq hA.2
          have hAn := hA.st HN.out lq hoth hBs
          have hE2 : EnAt V' pp e1 := (hoth pp npq.out).trans hE
          refine step_store 7 rfl rfl 54 _ _ rfl _ _ rfl rfl hst ⟨hAn, fun _ => trivial, fun _ => trivial⟩ ?_
          simp only [Act.put]
          clear hA hst; have hA := hAn; clear hAn
          refine done_ph (by kernel_rfl) ?_ _
          refine NoPanic.normal ?_
          go_wp2_with fail
          go_meet
          case rel => exact ⟨pp, pq, rfl, rfl, hA.2, hE2, hF⟩
    · refine step_alloc 4 rfl rfl 54 rfl #[.string ⟨#[]⟩, .bool false, .bool false] rfl (fun pp V' zp hb hp => ⟨⟨hA.on HN.out hb, fun _ => trivial, fun _ => trivial⟩, ?_⟩)
      simp only [Act.put, List.setIfInBounds_toArray, List.set_cons_zero, List.set_cons_succ]
      have lp := Nat.le_trans hA.2.size hp
      clear hp
      have hAn := hA.on HN.out hb; clear hA; have hA := hAn; clear hAn
      clear hb
      refine ready_all [1, 5] (by kernel_rfl) rfl (steps_cons ?_ (steps_cons ?_ (steps_nil)))
      · refine step_call 1 rfl (fun KK hK => ?_)
        go_simp
        go_wp2_with (first | (go_at_call 27; refine (C1.out _).mono ?_; rintro e V' ⟨rfl, hb⟩))
        refine hK.out _ _ ⟨hA.on HN.out hb, fun _ => trivial, fun _ => trivial⟩ ?_
        clear hK KK
        have hAn := hA.on HN.out hb; clear hA; have hA := hAn; clear hAn
        have zn := blkKeep hb zp; clear zp; have zp := zn; clear zn
        clear hb
        refine ready_all [3, 5] (by kernel_rfl) rfl (steps_cons ?_ (steps_cons ?_ (steps_nil)))
        · refine step_call 3 rfl (fun KK hK => ?_)
          go_simp
          go_wp2_with (first | (go_at_call 28; refine (C2.out _).mono ?_; rintro e V' ⟨rfl, hb⟩))
          refine hK.out _ _ ⟨hA.on HN.out hb, fun _ => trivial, fun _ => trivial⟩ ?_
          clear hK KK
          have hAn := hA.on HN.out hb; clear hA; have hA := hAn; clear hAn
          have zn := blkKeep hb zp; clear zp; have zp := zn; clear zn
          clear hb
          refine ready_all [5] (by kernel_rfl) rfl (steps_cons ?_ (steps_nil))
          refine step_alloc 5 rfl rfl 54 rfl #[.string ⟨#[]⟩, .bool false, .bool false] rfl (fun pq V' zq hb hp => ⟨⟨hA.on HN.out hb, fun _ => trivial, fun _ => trivial⟩, ?_⟩)
          simp only [Act.put, List.setIfInBounds_toArray, List.set_cons_zero, List.set_cons_succ]
          have lq := Nat.le_trans hA.2.size hp
          have npq : Hid (pp ≠ pq) := fun e => by have := blk_lt zp; omega
          clear hp
          have hAn := hA.on HN.out hb; clear hA; have hA := hAn; clear hAn
          have zn := blkKeep hb zp; clear zp; have zp := zn; clear zn
          clear hb
          refine ready_all [6] (by kernel_rfl) rfl (steps_cons ?_ (steps_nil))
          obtain ⟨V', hst, hE, hBs, hoth, _⟩ := store_en e1 zp rfl lp hA.2
          have hAn := hA.st HN.out lp hoth hBs
          have hne : pq ≠ pp := by rintro rfl; exact npq.out rfl
          have zn := (hoth pq hne).trans zq; clear zq; have zq := zn; clear zn zp hne
          refine step_store 6 rfl rfl 54 _ _ rfl _ _ rfl rfl hst ⟨hAn, fun _ => trivial, fun _ => trivial⟩ ?_
          simp only [Act.put]
          clear hA hst; have hA := hAn; clear hAn
          refine ready_all [7] (by kernel_rfl) rfl (steps_cons ?_ (steps_nil))
          obtain ⟨V', hst, hF, hBs, hoth, _⟩ := store_en e2 zq rfl lq hA.2
          have hAn := hA.st HN.out lq hoth hBs
          have hE2 : EnAt V' pp e1 := (hoth pp npq.out).trans hE
          refine step_store 7 rfl rfl 54 _ _ rfl _ _ rfl rfl hst ⟨hAn, fun _ => trivial, fun _ => trivial⟩ ?_
          simp only [Act.put]
          clear hA hst; have hA := hAn; clear hAn
          refine done_ph (by kernel_rfl) ?_ _
          refine NoPanic.normal ?_
          go_wp2_with fail
          go_meet
          case rel => exact ⟨pp, pq, rfl, rfl, hA.2, hE2, hF⟩
        · refine step_alloc 5 rfl rfl 54 rfl #[.string ⟨#[]⟩, .bool false, .bool false] rfl (fun pq V' zq hb hp => ⟨⟨hA.on HN.out hb, fun _ => trivial, fun _ => trivial⟩, ?_⟩)
          simp only [Act.put, List.setIfInBounds_toArray, List.set_cons_zero, List.set_cons_succ]
          have lq := Nat.le_trans hA.2.size hp
          have npq : Hid (pp ≠ pq) := fun e => by have := blk_lt zp; omega
          clear hp
          have hAn := hA.on HN.out hb; clear hA; have hA := hAn; clear hAn
          have zn := blkKeep hb zp; clear zp; have zp := zn; clear zn
          clear hb
          refine ready_all [3] (by kernel_rfl) rfl (steps_cons ?_ (steps_nil))
          refine step_call 3 rfl (fun KK hK => ?_)
          go_simp
          go_wp2_with (first | (go_at_call 28; refine (C2.out _).mono ?_; rintro e V' ⟨rfl, hb⟩))
          refine hK.out _ _ ⟨hA.on HN.out hb, fun _ => trivial, fun _ => trivial⟩ ?_
          clear hK KK
          have hAn := hA.on HN.out hb; clear hA; have hA := hAn; clear hAn
          have zn := blkKeep hb zp; clear zp; have zp := zn; clear zn
          have zn := blkKeep hb zq; clear zq; have zq := zn; clear zn
          clear hb
          refine ready_all [6] (by kernel_rfl) rfl (steps_cons ?_ (steps_nil))
          obtain ⟨V', hst, hE, hBs, hoth, _⟩ := store_en e1 zp rfl lp hA.2
          have hAn := hA.st HN.out lp hoth hBs
          have hne : pq ≠ pp := by rintro rfl; exact npq.out rfl
          have zn := (hoth pq hne).trans zq; clear zq; have zq := zn; clear zn zp hne
          refine step_store 6 rfl rfl 54 _ _ rfl _ _ rfl rfl hst ⟨hAn, fun _ => trivial, fun _ => trivial⟩ ?_
          simp only [Act.put]
          clear hA hst; have hA := hAn; clear hAn
          refine ready_all [7] (by kernel_rfl) rfl (steps_cons ?_ (steps_nil))
          obtain ⟨V', hst, hF, hBs, hoth, _⟩ := store_en e2 zq rfl lq hA.2
          have hAn := hA.st HN.out lq hoth hBs
          have hE2 : EnAt V' pp e1 := (hoth pp npq.out).trans hE
          refine step_store 7 rfl rfl 54 _ _ rfl _ _ rfl rfl hst ⟨hAn, fun _ => trivial, fun _ => trivial⟩ ?_
          simp only [Act.put]
          clear hA hst; have hA := hAn; clear hAn
          refine done_ph (by kernel_rfl) ?_ _
          refine NoPanic.normal ?_
          go_wp2_with fail
          go_meet
          case rel => exact ⟨pp, pq, rfl, rfl, hA.2, hE2, hF⟩
      · refine step_alloc 5 rfl rfl 54 rfl #[.string ⟨#[]⟩, .bool false, .bool false] rfl (fun pq V' zq hb hp => ⟨⟨hA.on HN.out hb, fun _ => trivial, fun _ => trivial⟩, ?_⟩)
        simp only [Act.put, List.setIfInBounds_toArray, List.set_cons_zero, List.set_cons_succ]
        have lq := Nat.le_trans hA.2.size hp
        have npq : Hid (pp ≠ pq) := fun e => by have := blk_lt zp; omega
        clear hp
        have hAn := hA.on HN.out hb; clear hA; have hA := hAn; clear hAn
        have zn := blkKeep hb zp; clear zp; have zp := zn; clear zn
        clear hb
        refine ready_all [1] (by kernel_rfl) rfl (steps_cons ?_ (steps_nil))
        refine step_call 1 rfl (fun KK hK => ?_)
        go_simp
        go_wp2_with (first | (go_at_call 27; refine (C1.out _).mono ?_; rintro e V' ⟨rfl, hb⟩))
        refine hK.out _ _ ⟨hA.on HN.out hb, fun _ => trivial, fun _ => trivial⟩ ?_
        clear hK KK
        have hAn := hA.on HN.out hb; clear hA; have hA := hAn; clear hAn
        have zn := blkKeep hb zp; clear zp; have zp := zn; clear zn
        have zn := blkKeep hb zq; clear zq; have zq := zn; clear zn
        clear hb
        refine ready_all [3] (by kernel_rfl) rfl (steps_cons ?_ (steps_nil))
        refine step_call 3 rfl (fun KK hK => ?_)
        go_simp
        go_wp2_with (first | (go_at_call 28; refine (C2.out _).mono ?_; rintro e V' ⟨rfl, hb⟩))
        refine hK.out _ _ ⟨hA.on HN.out hb, fun _ => trivial, fun _ => trivial⟩ ?_
        clear hK KK
        have hAn := hA.on HN.out hb; clear hA; have hA := hAn; clear hAn
        have zn := blkKeep hb zp; clear zp; have zp := zn; clear zn
        have zn := blkKeep hb zq; clear zq; have zq := zn; clear zn
        clear hb
        refine ready_all [6] (by kernel_rfl) rfl (steps_cons ?_ (steps_nil))
        obtain ⟨V', hst, hE, hBs, hoth, _⟩ := store_en e1 zp rfl lp hA.2
        have hAn := hA.st HN.out lp hoth hBs
        have hne : pq ≠ pp := by rintro rfl; exact npq.out rfl
        have zn := (hoth pq hne).trans zq; clear zq; have zq := zn; clear zn zp hne
        refine step_store 6 rfl rfl 54 _ _ rfl _ _ rfl rfl hst ⟨hAn, fun _ => trivial, fun _ => trivial⟩ ?_
        simp only [Act.put]
        clear hA hst; have hA := hAn; clear hAn
        refine ready_all [7] (by kernel_rfl) rfl (steps_cons ?_ (steps_nil))
        obtain ⟨V', hst, hF, hBs, hoth, _⟩ := store_en e2 zq rfl lq hA.2
        have hAn := hA.st HN.out lq hoth hBs
        have hE2 : EnAt V' pp e1 := (hoth pp npq.out).trans hE
        refine step_store 7 rfl rfl 54 _ _ rfl _ _ rfl rfl hst ⟨hAn, fun _ => trivial, fun _ => trivial⟩ ?_
        simp only [Act.put]
        clear hA hst; have hA := hAn; clear hAn
        refine done_ph (by kernel_rfl) ?_ _
        refine NoPanic.normal ?_
        go_wp2_with fail
        go_meet
        case rel => exact ⟨pp, pq, rfl, rfl, hA.2, hE2, hF⟩
    · refine step_alloc 5 rfl rfl 54 rfl #[.string ⟨#[]⟩, .bool false, .bool false] rfl (fun pq V' zq hb hp => ⟨⟨hA.on HN.out hb, fun _ => trivial, fun _ => trivial⟩, ?_⟩)
      simp only [Act.put, List.setIfInBounds_toArray, List.set_cons_zero, List.set_cons_succ]
      have lq := Nat.le_trans hA.2.size hp
      clear hp
      have hAn := hA.on HN.out hb; clear hA; have hA := hAn; clear hAn
      clear hb
      refine ready_all [1, 4] (by kernel_rfl) rfl (steps_cons ?_ (steps_cons ?_ (steps_nil)))
      · refine step_call 1 rfl (fun KK hK => ?_)
        go_simp
        go_wp2_with (first | (go_at_call 27; refine (C1.out _).mono ?_; rintro e V' ⟨rfl, hb⟩))
        refine hK.out _ _ ⟨hA.on HN.out hb, fun _ => trivial, fun _ => trivial⟩ ?_
        clear hK KK
        have hAn := hA.on HN.out hb; clear hA; have hA := hAn; clear hAn
        have zn := blkKeep hb zq; clear zq; have zq := zn; clear zn
        clear hb
        refine ready_all [3, 4] (by kernel_rfl) rfl (steps_cons ?_ (steps_cons ?_ (steps_nil)))
        · refine step_call 3 rfl (fun KK hK => ?_)
          go_simp
          go_wp2_with (first | (go_at_call 28; refine (C2.out _).mono ?_; rintro e V' ⟨rfl, hb⟩))
          refine hK.out _ _ ⟨hA.on HN.out hb, fun _ => trivial, fun _ => trivial⟩ ?_
          clear hK KK
          have hAn := hA.on HN.out hb; clear hA; have hA := hAn; clear hAn
          have zn := blkKeep hb zq; clear zq; have zq := zn; clear zn
          clear hb
          refine ready_all [4] (by kernel_rfl) rfl (steps_cons ?_ (steps_nil))
          refine step_alloc 4 rfl rfl 54 rfl #[.string ⟨#[]⟩, .bool false, .bool false] rfl (fun pp V' zp hb hp => ⟨⟨hA.on HN.out hb, fun _ => trivial, fun _ => trivial⟩, ?_⟩)
          simp only [Act.put, List.setIfInBounds_toArray, List.set_cons_zero, List.set_cons_succ]
          have lp := Nat.le_trans hA.2.size hp
          have npq : Hid (pp ≠ pq) := fun e => by have := blk_lt zq; omega
          clear hp
          have hAn := hA.on HN.out hb; clear hA; have hA := hAn; clear hAn
          have zn := blkKeep hb zq; clear zq; have zq := zn; clear zn
          clear hb
          refine ready_all [6] (by kernel_rfl) rfl (steps_cons ?_ (steps_nil))
          obtain ⟨V', hst, hE, hBs, hoth, _⟩ := store_en e1 zp rfl lp hA.2
          have hAn := hA.st HN.out lp hoth hBs
          have hne : pq ≠ pp := by rintro rfl; exact npq.out rfl
          have zn := (hoth pq hne).trans zq; clear zq; have zq := zn; clear zn zp hne
          refine step_store 6 rfl rfl 54 _ _ rfl _ _ rfl rfl hst ⟨hAn, fun _ => trivial, fun _ => trivial⟩ ?_
          simp only [Act.put]
          clear hA hst; have hA := hAn; clear hAn
          refine ready_all [7] (by kernel_rfl) rfl (steps_cons ?_ (steps_nil))
          obtain ⟨V', hst, hF, hBs, hoth, _⟩ := store_en e2 zq rfl lq hA.2
          have hAn := hA.st HN.out lq hoth hBs
          have hE2 : EnAt V' pp e1 := (hoth pp npq.out).trans hE
          refine step_store 7 rfl rfl 54 _ _ rfl _ _ rfl rfl hst ⟨hAn, fun _ => trivial, fun _ => trivial⟩ ?_
          simp only [Act.put]
          clear hA hst; have hA := hAn; clear hAn
          refine done_ph (by kernel_rfl) ?_ _
          refine NoPanic.normal ?_
          go_wp2_with fail
          go_meet
          case rel => exact ⟨pp, pq, rfl, rfl, hA.2, hE2, hF⟩
        · refine step_alloc 4 rfl rfl 54 rfl #[.string ⟨#[]⟩, .bool false, .bool false] rfl (fun pp V' zp hb hp => ⟨⟨hA.on HN.out hb, fun _ => trivial, fun _ => trivial⟩, ?_⟩)
          simp only [Act.put, List.setIfInBounds_toArray, List.set_cons_zero, List.set_cons_succ]
          have lp := Nat.le_trans hA.2.size hp
          have npq : Hid (pp ≠ pq) := fun e => by have := blk_lt zq; omega
          clear hp
          have hAn := hA.on HN.out hb; clear hA; have hA := hAn; clear hAn
          have zn := blkKeep hb zq; clear zq; have zq := zn; clear zn
          clear hb
          refine ready_all [3] (by kernel_rfl) rfl (steps_cons ?_ (steps_nil))
          refine step_call 3 rfl (fun KK hK => ?_)
          go_simp
          go_wp2_with (first | (go_at_call 28; refine (C2.out _).mono ?_; rintro e V' ⟨rfl, hb⟩))
          refine hK.out _ _ ⟨hA.on HN.out hb, fun _ => trivial, fun _ => trivial⟩ ?_
          clear hK KK
          have hAn := hA.on HN.out hb; clear hA; have hA := hAn; clear hAn
          have zn := blkKeep hb zq; clear zq; have zq := zn; clear zn
          have zn := blkKeep hb zp; clear zp; have zp := zn; clear zn
          clear hb
          refine ready_all [6] (by kernel_rfl) rfl (steps_cons ?_ (steps_nil))
          obtain ⟨V', hst, hE, hBs, hoth, _⟩ := store_en e1 zp rfl lp hA.2
          have hAn := hA.st HN.out lp hoth hBs
          have hne : pq ≠ pp := by rintro rfl; exact npq.out rfl
          have zn := (hoth pq hne).trans zq; clear zq; have zq := zn; clear zn zp hne
          refine step_store 6 rfl rfl 54 _ _ rfl _ _ rfl rfl hst ⟨hAn, fun _ => trivial, fun _ => trivial⟩ ?_
          simp only [Act.put]
          clear hA hst; have hA := hAn; clear hAn
          refine ready_all [7] (by kernel_rfl) rfl (steps_cons ?_ (steps_nil))
          obtain ⟨V', hst, hF, hBs, hoth, _⟩ := store_en e2 zq rfl lq hA.2
          have hAn := hA.st HN.out lq hoth hBs
          have hE2 : EnAt V' pp e1 := (hoth pp npq.out).trans hE
          refine step_store 7 rfl rfl 54 _ _ rfl _ _ rfl rfl hst ⟨hAn, fun _ => trivial, fun _ => trivial⟩ ?_
          simp only [Act.put]
          clear hA hst; have hA := hAn; clear hAn
          refine done_ph (by kernel_rfl) ?_ _
          refine NoPanic.normal ?_
          go_wp2_with fail
          go_meet
          case rel => exact ⟨pp, pq, rfl, rfl, hA.2, hE2, hF⟩
      · refine step_alloc 4 rfl rfl 54 rfl #[.string ⟨#[]⟩, .bool false, .bool false] rfl (fun pp V' zp hb hp => ⟨⟨hA.on HN.out hb, fun _ => trivial, fun _ => trivial⟩, ?_⟩)
        simp only [Act.put, List.setIfInBounds_toArray, List.set_cons_zero, List.set_cons_succ]
        have lp := Nat.le_trans hA.2.size hp
        have npq : Hid (pp ≠ pq) := fun e => by have := blk_lt zq; omega
        clear hp
        have hAn := hA.on HN.out hb; clear hA; have hA := hAn; clear hAn
        have zn := blkKeep hb zq; clear zq; have zq := zn; clear zn
        clear hb
        refine ready_all [1] (by kernel_rfl) rfl (steps_cons ?_ (steps_nil))
        refine step_call 1 rfl (fun KK hK => ?_)
        go_simp
        go_wp2_with (first | (go_at_call 27; refine (C1.out _).mono ?_; rintro e V' ⟨rfl, hb⟩))
        refine hK.out _ _ ⟨hA.on HN.out hb, fun _ => trivial, fun _ => trivial⟩ ?_
        clear hK KK
        have hAn := hA.on HN.out hb; clear hA; have hA := hAn; clear hAn
        have zn := blkKeep hb zq; clear zq; have zq := zn; clear zn
        have zn := blkKeep hb zp; clear zp; have zp := zn; clear zn
        clear hb
        refine ready_all [3] (by kernel_rfl) rfl (steps_cons ?_ (steps_nil))
        refine step_call 3 rfl (fun KK hK => ?_)
        go_simp
        go_wp2_with (first | (go_at_call 28; refine (C2.out _).mono ?_; rintro e V' ⟨rfl, hb⟩))
        refine hK.out _ _ ⟨hA.on HN.out hb, fun _ => trivial, fun _ => trivial⟩ ?_
        clear hK KK
        have hAn := hA.on HN.out hb; clear hA; have hA := hAn; clear hAn
        have zn := blkKeep hb zq; clear zq; have zq := zn; clear zn
        have zn := blkKeep hb zp; clear zp; have zp := zn; clear zn
        clear hb
        refine ready_all [6] (by kernel_rfl) rfl (steps_cons ?_ (steps_nil))
        obtain ⟨V', hst, hE, hBs, hoth, _⟩ := store_en e1 zp rfl lp hA.2
        have hAn := hA.st HN.out lp hoth hBs
        have hne : pq ≠ pp := by rintro rfl; exact npq.out rfl
        have zn := (hoth pq hne).trans zq; clear zq; have zq := zn; clear zn zp hne
        refine step_store 6 rfl rfl 54 _ _ rfl _ _ rfl rfl hst ⟨hAn, fun _ => trivial, fun _ => trivial⟩ ?_
        simp only [Act.put]
        clear hA hst; have hA := hAn; clear hAn
        refine ready_all [7] (by kernel_rfl) rfl (steps_cons ?_ (steps_nil))
        obtain ⟨V', hst, hF, hBs, hoth, _⟩ := store_en e2 zq rfl lq hA.2
        have hAn := hA.st HN.out lq hoth hBs
        have hE2 : EnAt V' pp e1 := (hoth pp npq.out).trans hE
        refine step_store 7 rfl rfl 54 _ _ rfl _ _ rfl rfl hst ⟨hAn, fun _ => trivial, fun _ => trivial⟩ ?_
        simp only [Act.put]
        clear hA hst; have hA := hAn; clear hAn
        refine done_ph (by kernel_rfl) ?_ _
        refine NoPanic.normal ?_
        go_wp2_with fail
        go_meet
        case rel => exact ⟨pp, pq, rfl, rfl, hA.2, hE2, hF⟩
  case rest =>
    obtain ⟨p, q, rfl, rfl, HX⟩ := hcut
    obtain ⟨W1, rfl⟩ : ∃ W1, W1 = wc := ⟨_, rfl⟩
    have HB1 : Hid (Below n w W1) := HBW.out.trans (HX.out.1.mono (Nat.le_of_lt HN.out))
    have HC : Hid (∀ V, Below W1.heap.size W1 V → (V.cell? ⟨p, 0, none⟩ = some (.string e1.t) ∧ V.cell? ⟨p, 1, none⟩ = some (.bool e1.h) ∧ V.cell? ⟨p, 2, none⟩ = some (.bool e1.o)) ∧ (V.cell? ⟨q, 0, none⟩ = some (.string e2.t) ∧ V.cell? ⟨q, 1, none⟩ = some (.bool e2.h) ∧ V.cell? ⟨q, 2, none⟩ = some (.bool e2.o))) := fun V hV => ⟨(HX.out.2.1.on hV).cells, (HX.out.2.2.on hV).cells⟩
    have HNW : Hid (n ≤ W1.heap.size) := by
      have h1 := HX.out.1.size
      have h2 := HN.out
      show _ ≤ _
      omega
    clear HX HN HT0 HBW C1 C2
    obtain ⟨t1, h1, o1⟩ := e1
    obtain ⟨t2, h2, o2⟩ := e2
    dsimp only at *
    obtain ⟨⟨x0, x1, x2⟩, _⟩ := HC.out W1 (Below.refl _ _)
    obtain ⟨k1, hk1⟩ : ∃ k, k = opnC ⟨t1, h1, o1⟩ := ⟨_, rfl⟩
    obtain ⟨k2, hk2⟩ : ∃ k, k = shtC ⟨t2, h2, o2⟩ := ⟨_, rfl⟩
    obtain ⟨b1, hb1⟩ : ∃ b, b = (h1 && !o1) := ⟨_, rfl⟩
    obtain ⟨b2, hb2⟩ : ∃ b, b = (h2 && !o2) := ⟨_, rfl⟩
    have HK1 : Hid (k1 = if b1 then 91 else 40) := by show _ = _; rw [hk1, hb1]; rfl
    have HK2 : Hid (k2 = if b2 then 93 else 41) := by show _ = _; rw [hk2, hb2]; rfl
    have HR2 : Hid (R = bs ([k1] ++ hexL t1.data.toList ++ [44] ++ hexL t2.data.toList ++ [k2])) := by show _ = _; rw [HR.out, hk1, hk2]; rfl
    clear hk1 hk2 HR
    have H1 : Hid (∀ c : Nat, OwnB (W1.alloc (.cells #[.int .u8 (c : Int)] 5)) W1.heap.size (.slice (some ⟨W1.heap.size, 0, none⟩) 1 1) [c] ∧ Below W1.heap.size W1 (W1.alloc (.cells #[.int .u8 (c : Int)] 5))) := fun c => ⟨own_one W1 _ c (Nat.le_refl _), below_alloc W1 _⟩
    obtain ⟨⟨y0, y1, y2⟩, _⟩ := HC.out _ (below_alloc W1 (.cells #[.int .u8 (40 : Int)] 5))
    go_upto_region 3 with fail
    go_cut [17] from 11 to 17 (fun sb wx => sb = .bool b1 ∧ wx = W1.alloc (.cells #[.int .u8 (40 : Int)] 5))
    case first =>
      subst hb1
      cases h1 with
      | false => go_wp2_with fail; go_meet; case rel => exact ⟨rfl, rfl⟩
      | true => go_wp2_with fail; go_meet; case rel => exact ⟨rfl, rfl⟩
    case rest =>
      obtain ⟨rfl, hwc⟩ := hcut
      subst hwc
      clear x0 x1 x2 y0 y1 y2 hb1
      cases b1 with
      | true =>
        go_upto_region 5 with fail
        obtain ⟨V1, hV1⟩ : ∃ V, V = W1.alloc (.cells #[.int .u8 (91 : Int)] 5) := ⟨_, rfl⟩
        rw [← hV1]
        have HO1 : Hid (OwnB V1 W1.heap.size (.slice (some ⟨W1.heap.size, 0, none⟩) 1 1) [91] ∧ Below W1.heap.size W1 V1) := by rw [hV1]; exact H1.out 91
        clear hV1 H1
        obtain ⟨⟨x0, x1, x2⟩, _⟩ := HC.out V1 HO1.out.2
        go_upto_region 8 with (first
          | (go_at_call 29; refine (digits_ W1.heap.size _ _ [91] t1 HO1.out.2.size HO1.out.1 (by have := HL.out; simp only [List.length_cons, List.length_nil]; omega)).mono ?_
             rintro e V2 ⟨v2, rfl, ho2, hb2⟩
             have HO2 : Hid (OwnB V2 W1.heap.size v2 ([91] ++ hexL t1.data.toList) ∧ Below W1.heap.size W1 V2) := ⟨ho2, HO1.out.2.trans hb2⟩
             clear ho2 hb2 x0 x1 x2 HO1)
          | (refine wpList_append_bytes _ rfl _ _ rfl W1.heap.size _ ([91] ++ hexL t1.data.toList) [44] rfl (HO2.out.1.on (below_alloc _ _)) (some ⟨V2.heap.size, 0, none⟩) 1 1 rfl rfl (fun h => by cases h) (one_new V2 44) (by have := HL.out; rw [List.length_append, hexL_len, ← size_list]; simp only [List.length_cons, List.length_nil]; omega) (Nat.le_trans HO2.out.2.size (below_alloc _ _).size) ?_
             intro v3 V3 ho3 hg3
             have HO3 : Hid (OwnB V3 W1.heap.size v3 ([91] ++ hexL t1.data.toList ++ [44]) ∧ Below W1.heap.size W1 V3) := ⟨ho3, below_grow (Nat.le_refl _) (below_step HO2.out.2 (below_alloc V2 _)) (HO2.out.1.on (below_alloc _ _)) hg3⟩
             obtain ⟨_, ⟨x0, x1, x2⟩⟩ := HC.out V3 HO3.out.2
             clear ho3 hg3 HO2)
          | (go_at_call 29; refine (digits_ W1.heap.size _ _ ([91] ++ hexL t1.data.toList ++ [44]) t2 HO3.out.2.size HO3.out.1 (by have := HL.out; rw [List.length_append, List.length_append, hexL_len, ← size_list]; simp only [List.length_cons, List.length_nil]; omega)).mono ?_
             rintro e V4 ⟨v4, rfl, ho4, hb4⟩
             have HO4 : Hid (OwnB V4 W1.heap.size v4 ([91] ++ hexL t1.data.toList ++ [44] ++ hexL t2.data.toList) ∧ Below W1.heap.size W1 V4) := ⟨ho4, HO3.out.2.trans hb4⟩
             obtain ⟨_, ⟨z0, z1, z2⟩⟩ := HC.out V4 HO4.out.2
             clear ho4 hb4 x0 x1 x2 HO3)
          | fail)
        go_cut [37] from 31 to 37 (fun sb wx => sb = .bool b2 ∧ wx = V4)
        case first =>
          subst hb2
          cases h2 with
          | false => go_wp2_with fail; go_meet; case rel => exact ⟨rfl, rfl⟩
          | true => go_wp2_with fail; go_meet; case rel => exact ⟨rfl, rfl⟩
        case rest =>
          obtain ⟨rfl, hwc⟩ := hcut
          subst hwc
          clear z0 z1 z2 hb2
          cases b2 with
          | true =>
            have HR3 : Hid (R = bs ([91] ++ hexL t1.data.toList ++ [44] ++ hexL t2.data.toList ++ [93])) := by
              have e1 : k1 = 91 := HK1.out
              have e2 : k2 = 93 := HK2.out
              show _ = _
              rw [HR2.out, e1, e2]
            go_wp2_with (first
              | (refine wpList_append_bytes _ rfl _ _ rfl W1.heap.size _ ([91] ++ hexL t1.data.toList ++ [44] ++ hexL t2.data.toList) [93] rfl (HO4.out.1.on (below_alloc _ _)) (some ⟨wc.heap.size, 0, none⟩) 1 1 rfl rfl (fun h => by cases h) (one_new wc 93) (by have := HL.out; rw [List.length_append, List.length_append, List.length_append, hexL_len, hexL_len, ← size_list, ← size_list]; simp only [List.length_cons, List.length_nil]; omega) (Nat.le_trans HO4.out.2.size (below_alloc _ _).size) ?_
                 intro v5 V5 ho5 hg5
                 obtain ⟨a5, c5, e5, hin5, _⟩ := ho5.bytes
                 obtain ⟨n5, hn5⟩ : ∃ n5, n5 = (([91] ++ hexL t1.data.toList ++ [44] ++ hexL t2.data.toList) ++ [93]).length := ⟨_, rfl⟩
                 rw [← hn5] at e5
                 subst e5
                 have kv := conv_ V5 a5 n5 c5 _ hn5 hin5
                 have HB5 : Hid (Below W1.heap.size W1 V5) := below_grow (Nat.le_refl _) (below_step HO4.out.2 (below_alloc wc _)) (HO4.out.1.on (below_alloc _ _)) hg5
                 rw [← HR3.out] at kv
                 clear ho5 hg5 hin5 hn5)
              | fail)
            go_ret
            exact ⟨rfl, by rw [HNn.out]; exact HB1.out.trans (HB5.out.mono HNW.out)⟩
          | false =>
            have HR3 : Hid (R = bs ([91] ++ hexL t1.data.toList ++ [44] ++ hexL t2.data.toList ++ [41])) := by
              have e1 : k1 = 91 := HK1.out
              have e2 : k2 = 41 := HK2.out
              show _ = _
              rw [HR2.out, e1, e2]
            go_wp2_with (first
              | (refine wpList_append_bytes _ rfl _ _ rfl W1.heap.size _ ([91] ++ hexL t1.data.toList ++ [44] ++ hexL t2.data.toList) [41] rfl (HO4.out.1.on (below_alloc _ _)) (some ⟨wc.heap.size, 0, none⟩) 1 1 rfl rfl (fun h => by cases h) (one_new wc 41) (by have := HL.out; rw [List.length_append, List.length_append, List.length_append, hexL_len, hexL_len, ← size_list, ← size_list]; simp only [List.length_cons, List.length_nil]; omega) (Nat.le_trans HO4.out.2.size (below_alloc _ _).size) ?_
                 intro v5 V5 ho5 hg5
                 obtain ⟨a5, c5, e5, hin5, _⟩ := ho5.bytes
                 obtain ⟨n5, hn5⟩ : ∃ n5, n5 = (([91] ++ hexL t1.data.toList ++ [44] ++ hexL t2.data.toList) ++ [41]).length := ⟨_, rfl⟩
                 rw [← hn5] at e5
                 subst e5
                 have kv := conv_ V5 a5 n5 c5 _ hn5 hin5
                 have HB5 : Hid (Below W1.heap.size W1 V5) := below_grow (Nat.le_refl _) (below_step HO4.out.2 (below_alloc wc _)) (HO4.out.1.on (below_alloc _ _)) hg5
                 rw [← HR3.out] at kv
                 clear ho5 hg5 hin5 hn5)
              | fail)
            go_ret
            exact ⟨rfl, by rw [HNn.out]; exact HB1.out.trans (HB5.out.mono HNW.out)⟩
      | false =>
        go_upto_region 5 with fail
        obtain ⟨V1, hV1⟩ : ∃ V, V = W1.alloc (.cells #[.int .u8 (40 : Int)] 5) := ⟨_, rfl⟩
        rw [← hV1]
        have HO1 : Hid (OwnB V1 W1.heap.size (.slice (some ⟨W1.heap.size, 0, none⟩) 1 1) [40] ∧ Below W1.heap.size W1 V1) := by rw [hV1]; exact H1.out 40
        clear hV1 H1
        obtain ⟨⟨x0, x1, x2⟩, _⟩ := HC.out V1 HO1.out.2
        go_upto_region 8 with (first
          | (go_at_call 29; refine (digits_ W1.heap.size _ _ [40] t1 HO1.out.2.size HO1.out.1 (by have := HL.out; simp only [List.length_cons, List.length_nil]; omega)).mono ?_
             rintro e V2 ⟨v2, rfl, ho2, hb2⟩
             have HO2 : Hid (OwnB V2 W1.heap.size v2 ([40] ++ hexL t1.data.toList) ∧ Below W1.heap.size W1 V2) := ⟨ho2, HO1.out.2.trans hb2⟩
             clear ho2 hb2 x0 x1 x2 HO1)
          | (refine wpList_append_bytes _ rfl _ _ rfl W1.heap.size _ ([40] ++ hexL t1.data.toList) [44] rfl (HO2.out.1.on (below_alloc _ _)) (some ⟨V2.heap.size, 0, none⟩) 1 1 rfl rfl (fun h => by cases h) (one_new V2 44) (by have := HL.out; rw [List.length_append, hexL_len, ← size_list]; simp only [List.length_cons, List.length_nil]; omega) (Nat.le_trans HO2.out.2.size (below_alloc _ _).size) ?_
             intro v3 V3 ho3 hg3
             have HO3 : Hid (OwnB V3 W1.heap.size v3 ([40] ++ hexL t1.data.toList ++ [44]) ∧ Below W1.heap.size W1 V3) := ⟨ho3, below_grow (Nat.le_refl _) (below_step HO2.out.2 (below_alloc V2 _)) (HO2.out.1.on (below_alloc _ _)) hg3⟩
             obtain ⟨_, ⟨x0, x1, x2⟩⟩ := HC.out V3 HO3.out.2
             clear ho3 hg3 HO2)
          | (go_at_call 29; refine (digits_ W1.heap.size _ _ ([40] ++ hexL t1.data.toList ++ [44]) t2 HO3.out.2.size HO3.out.1 (by have := HL.out; rw [List.length_append, List.length_append, hexL_len, ← size_list]; simp only [List.length_cons, List.length_nil]; omega)).mono ?_
             rintro e V4 ⟨v4, rfl, ho4, hb4⟩
             have HO4 : Hid (OwnB V4 W1.heap.size v4 ([40] ++ hexL t1.data.toList ++ [44] ++ hexL t2.data.toList) ∧ Below W1.heap.size W1 V4) := ⟨ho4, HO3.out.2.trans hb4⟩
             obtain ⟨_, ⟨z0, z1, z2⟩⟩ := HC.out V4 HO4.out.2
             clear ho4 hb4 x0 x1 x2 HO3)
          | fail)
        go_cut [37] from 31 to 37 (fun sb wx => sb = .bool b2 ∧ wx = V4)
        case first =>
          subst hb2
          cases h2 with
          | false => go_wp2_with fail; go_meet; case rel => exact ⟨rfl, rfl⟩
          | true => go_wp2_with fail; go_meet; case rel => exact ⟨rfl, rfl⟩
        case rest =>
          obtain ⟨rfl, hwc⟩ := hcut
          subst hwc
          clear z0 z1 z2 hb2
          cases b2 with
          | true =>
            have HR3 : Hid (R = bs ([40] ++ hexL t1.data.toList ++ [44] ++ hexL t2.data.toList ++ [93])) := by
              have e1 : k1 = 40 := HK1.out
              have e2 : k2 = 93 := HK2.out
              show _ = _
              rw [HR2.out, e1, e2]
            go_wp2_with (first
              | (refine wpList_append_bytes _ rfl _ _ rfl W1.heap.size _ ([40] ++ hexL t1.data.toList ++ [44] ++ hexL t2.data.toList) [93] rfl (HO4.out.1.on (below_alloc _ _)) (some ⟨wc.heap.size, 0, none⟩) 1 1 rfl rfl (fun h => by cases h) (one_new wc 93) (by have := HL.out; rw [List.length_append, List.length_append, List.length_append, hexL_len, hexL_len, ← size_list, ← size_list]; simp only [List.length_cons, List.length_nil]; omega) (Nat.le_trans HO4.out.2.size (below_alloc _ _).size) ?_
                 intro v5 V5 ho5 hg5
                 obtain ⟨a5, c5, e5, hin5, _⟩ := ho5.bytes
                 obtain ⟨n5, hn5⟩ : ∃ n5, n5 = (([40] ++ hexL t1.data.toList ++ [44] ++ hexL t2.data.toList) ++ [93]).length := ⟨_, rfl⟩
                 rw [← hn5] at e5
                 subst e5
                 have kv := conv_ V5 a5 n5 c5 _ hn5 hin5
                 have HB5 : Hid (Below W1.heap.size W1 V5) := below_grow (Nat.le_refl _) (below_step HO4.out.2 (below_alloc wc _)) (HO4.out.1.on (below_alloc _ _)) hg5
                 rw [← HR3.out] at kv
                 clear ho5 hg5 hin5 hn5)
              | fail)
            go_ret
            exact ⟨rfl, by rw [HNn.out]; exact HB1.out.trans (HB5.out.mono HNW.out)⟩
          | false =>
            have HR3 : Hid (R = bs ([40] ++ hexL t1.data.toList ++ [44] ++ hexL t2.data.toList ++ [41])) := by
              have e1 : k1 = 40 := HK1.out
              have e2 : k2 = 41 := HK2.out
              show _ = _
              rw [HR2.out, e1, e2]
            go_wp2_with (first
              | (refine wpList_append_bytes _ rfl _ _ rfl W1.heap.size _ ([40] ++ hexL t1.data.toList ++ [44] ++ hexL t2.data.toList) [41] rfl (HO4.out.1.on (below_alloc _ _)) (some ⟨wc.heap.size, 0, none⟩) 1 1 rfl rfl (fun h => by cases h) (one_new wc 41) (by have := HL.out; rw [List.length_append, List.length_append, List.length_append, hexL_len, hexL_len, ← size_list, ← size_list]; simp only [List.length_cons, List.length_nil]; omega) (Nat.le_trans HO4.out.2.size (below_alloc _ _).size) ?_
                 intro v5 V5 ho5 hg5
                 obtain ⟨a5, c5, e5, hin5, _⟩ := ho5.bytes
                 obtain ⟨n5, hn5⟩ : ∃ n5, n5 = (([40] ++ hexL t1.data.toList ++ [44] ++ hexL t2.data.toList) ++ [41]).length := ⟨_, rfl⟩
                 rw [← hn5] at e5
                 subst e5
                 have kv := conv_ V5 a5 n5 c5 _ hn5 hin5
                 have HB5 : Hid (Below W1.heap.size W1 V5) := below_grow (Nat.le_refl _) (below_step HO4.out.2 (below_alloc wc _)) (HO4.out.1.on (below_alloc _ _)) hg5
                 rw [← HR3.out] at kv
                 clear ho5 hg5 hin5 hn5)
              | fail)
            go_ret
            exact ⟨rfl, by rw [HNn.out]; exact HB1.out.trans (HB5.out.mono HNW.out)⟩
end Go.Proofs.Yteeojhmdefhlmaa
