/- Tree.From. -/
import Derived.Test.YtagamkahfiackaaGreatDoorVDown
namespace Go.Proofs.YtagamkahfiackaaGreatDoor
open Go.RowKit Go.Sort

set_option maxRecDepth 100000 in
set_option maxHeartbeats 2000000 in
theorem from_f {w : World} {M : Nat → Option Nd} {p : Nat} {l : List It} {F : Nat → Prop} (hs : Store w M) (ht : TreeAt w M p l F) (k : ByteArray) :
    Calls Tryz.prog 46 #[.pointer (some ⟨p, 0, none⟩), .string k, .bool false] w fun e w' => e = .returned (tellV (l.find? (frP k false))) ∧ Below w.heap.size w w' := by
  obtain ⟨kx0, v0, hat, htop⟩ := ht.top
  have HT := Lib.hid htop
  have HS := Lib.hid hs
  have HA0 := Lib.hid hat
  obtain ⟨ans, hans⟩ : ∃ ans, ans = l.find? (frP k false) := ⟨_, rfl⟩
  have HANS := Lib.hid hans
  rw [← hans]
  have HB0 := Lib.hid (Below.refl w.heap.size w)
  have HTell : Hid (∀ V v o, Best V v o → Calls Tryz.prog 62 #[v] V fun e w' => ∃ t1 t2 t3, e = .returned (.tuple #[t1, t2, t3]) ∧ Hid (tellV o = .tuple #[t1, t2, t3]) ∧ Hid (Below V.heap.size V w')) := fun V v o hb => (tell_ hb).mono fun e w' ⟨e1, e2⟩ => by
    cases o with
    | none => exact ⟨_, _, _, e1, rfl, e2⟩
    | some x => exact ⟨_, _, _, e1, rfl, e2⟩
  clear hans htop hat hs ht
  go_enter Tryz.func46, Tryz.ntmps46
  go_wp2_with (first | (go_at_call 39; refine HT.out.mono ?_; rintro e w1 ⟨rfl, rfl⟩) | fail)
  rename World => w
  go_loopg [9, 10] kx0 (fun kx s9 s10 wr => ∃ lq bo, ((s10 = .pointer none ∧ Hid (lq = [])) ∨ ∃ h q F, h < kx ∧ s10 = .pointer (some ⟨q, 0, none⟩) ∧ Hid (Nod M (h + 1) 1 7 q lq F ∧ Srt lq)) ∧ Hid (Best wr s9 bo) ∧ Hid (Below w.heap.size w wr) ∧ Hid ((lq.find? (frP k false)).or bo = ans))
  case atStart => exact ⟨l, none, HA0.out, .inl ⟨rfl, rfl⟩, HB0, by show _ = _; rw [Option.or_none]; exact HANS.out.symm⟩
  case round =>
    clear HB0 HANS HA0
    obtain ⟨lq, bo, hcase, HBest, HB, HI⟩ := hrel
    rcases hcase with ⟨rfl, HL⟩ | ⟨h, q, F', hh, rfl, HN⟩
    · have HT2 := Lib.hid (HTell.out _ _ _ HBest.out)
      have HO : Hid (bo = ans) := by have := HI.out; rw [HL.out] at this; show bo = ans; simpa using this
      clear HTell HI HL HT
      go_wp2_with (first | (go_at_call 62; refine HT2.out.mono ?_; rintro e w2 ⟨t1, t2, t3, rfl, HV, HB2⟩) | fail)
      go_ret3
      exact ⟨by rw [← HO.out, HV.out]; rfl, below_step HB.out HB2.out⟩
    · obtain ⟨n, hq, hm1, hm7, hsi, hcut⟩ := cut_ HN.out.1 HN.out.2
      have hsr := HS.out.on HB.out
      obtain ⟨ai, ci, hiv, _⟩ := row_shape (hsr.its q n hq)
      have HC : Hid (∀ V, Below wr.heap.size wr V → V.cell? ⟨q, 0, none⟩ = some (.slice ai n.its.length ci)) := fun V hV => by rw [((hsr.on hV).cells hq).1, hiv]
      rcases about hsi k with ⟨I1, u, I3, hy⟩ | ⟨I1, I2, hy⟩
      · obtain ⟨g, c, e1, _⟩ := hsr.item hq hy.eq
        have HBn : Hid (Best wr (.pointer (some ⟨g, I1.length * 2, none⟩)) (some (k, u))) := Best.item hsr hq hy.eq (by rw [hiv] at e1 ⊢; rw [e1])
        rw [hiv] at e1
        simp only [Value.slice.injEq] at e1
        obtain ⟨rfl, hlen, rfl⟩ := e1
        have HFd : Hid (∀ V, Below wr.heap.size wr V → Calls Tryz.prog 40 #[.pointer (some ⟨q, 0, none⟩), .string k] V fun e w' => e = .returned (.tuple #[.int .i64 I1.length, .bool true]) ∧ Hid (Below V.heap.size V w')) := fun V hV => (find_yes (hsr.on hV) hq hsi (by omega) hy)
        have HO : Hid (ans = some (k, u)) := by
          obtain ⟨v2, lk, hc⟩ := hcut I1 ((k, u) :: I3) hy.eq
          obtain ⟨PP, SS, e⟩ := hc.mid
          have hsl := HN.out.2
          rw [e] at hsl
          obtain ⟨g1, g2⟩ := hsl.about_mid
          have := HI.out
          rw [e] at this
          show _ = _
          rw [← this, from_leaf (fun x hx => frP_lo (g1 x hx)) (fun x hx => by
            rcases List.mem_cons.1 hx with rfl | hx
            · simp [frP, ltb_irrefl]
            · exact frP_hi (g2 x hx))]
          simp
        obtain ⟨i1, hi1⟩ : ∃ i1, i1 = I1.length := ⟨_, rfl⟩
        obtain ⟨nl, hnl⟩ : ∃ nl, nl = n.its.length := ⟨_, rfl⟩
        rw [← hi1] at HFd HBn hlen
        rw [← hnl] at hlen HC
        have hlt : (i1 : Int) < nl := by omega
        clear hi1 hnl hy hcut hsr hiv hq hsi hlen HI HN HT hm1 hm7
        go_wp2_with (first
        | (go_at_call 40; refine (HFd.out _ (Below.refl _ _)).mono ?_; rintro e w2 ⟨rfl, HB2⟩; have d0 := HC.out _ HB2.out; have HT2 := Lib.hid (HTell.out _ _ _ (HBn.out.on HB2.out)))
        | (go_at_call 62; refine HT2.out.mono ?_; rintro e w3 ⟨t1, t2, t3, rfl, HV, HB3⟩)
        | fail)
        go_ret3
        exact ⟨by rw [HO.out, HV.out]; rfl, below_step (below_step HB.out HB2.out) HB3.out⟩
      · obtain ⟨v2, lk, hc⟩ := hcut I1 I2 hy.eq
        have HFd : Hid (∀ V, Below wr.heap.size wr V → Calls Tryz.prog 40 #[.pointer (some ⟨q, 0, none⟩), .string k] V fun e w' => e = .returned (.tuple #[.int .i64 I1.length, .bool false]) ∧ Hid (Below V.heap.size V w')) := fun V hV => (find_not (hsr.on hV) hq hsi (by omega) hy)
        have HF := Lib.hid (hc.first (frP_up k false) HN.out.2 (fun x hx => frP_lo (hy.lo x hx)) (fun x hx => frP_hi (hy.hi x hx)))
        have HCh : Hid (∀ V, Below wr.heap.size wr V → Calls Tryz.prog 41 #[.pointer (some ⟨q, 0, none⟩), .int .i64 I1.length] V fun e w' => e = .returned v2 ∧ w' = V) := fun V hV => hc.child V (hsr.on hV)
        have HAt := Lib.hid hc.next
        have hlen : n.its.length = I1.length + I2.length := by rw [hy.eq]; simp
        cases hIB : I2 with
        | nil =>
          have HNx : Hid ((lk.find? (frP k false)).or bo = ans) := by have := HI.out; rw [HF.out, hIB, List.head?_nil, Option.or_none] at this; exact this
          rw [hIB] at hlen
          obtain ⟨i1, hi1⟩ : ∃ i1, i1 = I1.length := ⟨_, rfl⟩
          obtain ⟨nl, hnl⟩ : ∃ nl, nl = n.its.length := ⟨_, rfl⟩
          rw [← hi1] at HFd HCh hlen
          rw [← hnl] at hlen HC
          have hlt : ¬ ((i1 : Int) < nl) := by simp at hlen; omega
          clear hi1 hnl hy hcut hsr hiv hq hsi hc hlen HF HI HN HTell HT hm1 hm7 hIB
          go_wp2_with (first
            | (go_at_call 40; refine (HFd.out _ (Below.refl _ _)).mono ?_; rintro e w2 ⟨rfl, HB2⟩; have d0 := HC.out _ HB2.out)
            | (go_at_call 41; refine (HCh.out _ HB2.out).mono ?_; rintro e w3 ⟨rfl, rfl⟩)
            | fail)
          rcases HAt.out with ⟨rfl, hl0⟩ | ⟨h', q', F2, hh', rfl, hN'⟩
          · go_roundg h
            case measure => omega
            case rel => exact ⟨lk, _, (.inl ⟨rfl, hl0⟩), HBest.out.on HB2.out, below_step HB.out HB2.out, HNx⟩
          · go_roundg h
            case measure => omega
            case rel => exact ⟨lk, _, (.inr ⟨h', q', F2, by omega, rfl, hN'⟩), HBest.out.on HB2.out, below_step HB.out HB2.out, HNx⟩
        | cons y B2 =>
          have hJe : n.its = I1 ++ y :: B2 := by rw [hy.eq, hIB]
          obtain ⟨g, c, e1, _⟩ := hsr.item hq hJe
          rw [hiv] at e1
          have HBn : Hid (Best wr (.pointer (some ⟨g, I1.length * 2, none⟩)) (some y)) := Best.item hsr hq hJe (by rw [hiv, e1])
          have HNx : Hid ((lk.find? (frP k false)).or (some y) = ans) := by have := HI.out; rw [HF.out, hIB, List.head?_cons, Option.or_assoc, Option.some_or] at this; exact this
          simp only [Value.slice.injEq] at e1
          obtain ⟨rfl, _, rfl⟩ := e1
          rw [hIB] at hlen
          obtain ⟨i1, hi1⟩ : ∃ i1, i1 = I1.length := ⟨_, rfl⟩
          obtain ⟨nl, hnl⟩ : ∃ nl, nl = n.its.length := ⟨_, rfl⟩
          rw [← hi1] at HFd HCh hlen
          rw [← hnl] at hlen HC
          rw [← hi1] at HBn
          have hlt : (i1 : Int) < nl := by simp at hlen; omega
          clear hi1 hnl hy hcut hsr hiv hq hsi hc hlen HF HI HN HTell HT hm1 hm7 hIB hJe
          go_wp2_with (first
            | (go_at_call 40; refine (HFd.out _ (Below.refl _ _)).mono ?_; rintro e w2 ⟨rfl, HB2⟩; have d0 := HC.out _ HB2.out)
            | (go_at_call 41; refine (HCh.out _ HB2.out).mono ?_; rintro e w3 ⟨rfl, rfl⟩)
            | fail)
          rcases HAt.out with ⟨rfl, hl0⟩ | ⟨h', q', F2, hh', rfl, hN'⟩
          · go_roundg h
            case measure => omega
            case rel => exact ⟨lk, _, (.inl ⟨rfl, hl0⟩), HBn.out.on HB2.out, below_step HB.out HB2.out, HNx⟩
          · go_roundg h
            case measure => omega
            case rel => exact ⟨lk, _, (.inr ⟨h', q', F2, by omega, rfl, hN'⟩), HBn.out.on HB2.out, below_step HB.out HB2.out, HNx⟩
set_option maxRecDepth 100000 in
set_option maxHeartbeats 2000000 in
theorem from_t {w : World} {M : Nat → Option Nd} {p : Nat} {l : List It} {F : Nat → Prop} (hs : Store w M) (ht : TreeAt w M p l F) (k : ByteArray) :
    Calls Tryz.prog 46 #[.pointer (some ⟨p, 0, none⟩), .string k, .bool true] w fun e w' => e = .returned (tellV (l.find? (frP k true))) ∧ Below w.heap.size w w' := by
  obtain ⟨kx0, v0, hat, htop⟩ := ht.top
  have HT := Lib.hid htop
  have HS := Lib.hid hs
  have HA0 := Lib.hid hat
  obtain ⟨ans, hans⟩ : ∃ ans, ans = l.find? (frP k true) := ⟨_, rfl⟩
  have HANS := Lib.hid hans
  rw [← hans]
  have HB0 := Lib.hid (Below.refl w.heap.size w)
  have HTell : Hid (∀ V v o, Best V v o → Calls Tryz.prog 62 #[v] V fun e w' => ∃ t1 t2 t3, e = .returned (.tuple #[t1, t2, t3]) ∧ Hid (tellV o = .tuple #[t1, t2, t3]) ∧ Hid (Below V.heap.size V w')) := fun V v o hb => (tell_ hb).mono fun e w' ⟨e1, e2⟩ => by
    cases o with
    | none => exact ⟨_, _, _, e1, rfl, e2⟩
    | some x => exact ⟨_, _, _, e1, rfl, e2⟩
  clear hans htop hat hs ht
  go_enter Tryz.func46, Tryz.ntmps46
  go_wp2_with (first | (go_at_call 39; refine HT.out.mono ?_; rintro e w1 ⟨rfl, rfl⟩) | fail)
  rename World => w
  go_loopg [9, 10] kx0 (fun kx s9 s10 wr => ∃ lq bo, ((s10 = .pointer none ∧ Hid (lq = [])) ∨ ∃ h q F, h < kx ∧ s10 = .pointer (some ⟨q, 0, none⟩) ∧ Hid (Nod M (h + 1) 1 7 q lq F ∧ Srt lq)) ∧ Hid (Best wr s9 bo) ∧ Hid (Below w.heap.size w wr) ∧ Hid ((lq.find? (frP k true)).or bo = ans))
  case atStart => exact ⟨l, none, HA0.out, .inl ⟨rfl, rfl⟩, HB0, by show _ = _; rw [Option.or_none]; exact HANS.out.symm⟩
  case round =>
    clear HB0 HANS HA0
    obtain ⟨lq, bo, hcase, HBest, HB, HI⟩ := hrel
    rcases hcase with ⟨rfl, HL⟩ | ⟨h, q, F', hh, rfl, HN⟩
    · have HT2 := Lib.hid (HTell.out _ _ _ HBest.out)
      have HO : Hid (bo = ans) := by have := HI.out; rw [HL.out] at this; show bo = ans; simpa using this
      clear HTell HI HL HT
      go_wp2_with (first | (go_at_call 62; refine HT2.out.mono ?_; rintro e w2 ⟨t1, t2, t3, rfl, HV, HB2⟩) | fail)
      go_ret3
      exact ⟨by rw [← HO.out, HV.out]; rfl, below_step HB.out HB2.out⟩
    · obtain ⟨n, hq, hm1, hm7, hsi, hcut⟩ := cut_ HN.out.1 HN.out.2
      have hsr := HS.out.on HB.out
      obtain ⟨ai, ci, hiv, _⟩ := row_shape (hsr.its q n hq)
      have HC : Hid (∀ V, Below wr.heap.size wr V → V.cell? ⟨q, 0, none⟩ = some (.slice ai n.its.length ci)) := fun V hV => by rw [((hsr.on hV).cells hq).1, hiv]
      rcases about hsi k with ⟨I1, u, I3, hy⟩ | ⟨I1, I2, hy⟩
      · obtain ⟨v2, lk, hc⟩ := hcut (I1 ++ [(k, u)]) I3 (by rw [hy.eq]; simp)
        have HFd : Hid (∀ V, Below wr.heap.size wr V → Calls Tryz.prog 40 #[.pointer (some ⟨q, 0, none⟩), .string k] V fun e w' => e = .returned (.tuple #[.int .i64 I1.length, .bool true]) ∧ Hid (Below V.heap.size V w')) := fun V hV => (find_yes (hsr.on hV) hq hsi (by omega) hy)
        have HF := Lib.hid (hc.first (frP_up k true) HN.out.2 (fun x hx => by
            rcases List.mem_append.1 hx with hx | hx
            · exact frP_lo (hy.lo x hx)
            · rw [List.mem_singleton.1 hx]; simp [frP, ltb_irrefl]) (fun x hx => frP_hi (hy.hi x hx)))
        have HCh : Hid (∀ V, Below wr.heap.size wr V → Calls Tryz.prog 41 #[.pointer (some ⟨q, 0, none⟩), .int .i64 ((I1.length : Int) + 1)] V fun e w' => e = .returned v2 ∧ w' = V) := fun V hV => by
          have := hc.child V (hsr.on hV)
          rw [show ((I1 ++ [(k, u)]).length : Int) = (I1.length : Int) + 1 by simp] at this
          exact this
        have HAt := Lib.hid hc.next
        have hlen : n.its.length = I1.length + I3.length + 1 := by rw [hy.eq]; simp; omega
        cases hIB : I3 with
        | nil =>
          have HNx : Hid ((lk.find? (frP k true)).or bo = ans) := by have := HI.out; rw [HF.out, hIB, List.head?_nil, Option.or_none] at this; exact this
          rw [hIB] at hlen
          obtain ⟨i1, hi1⟩ : ∃ i1, i1 = I1.length := ⟨_, rfl⟩
          obtain ⟨nl, hnl⟩ : ∃ nl, nl = n.its.length := ⟨_, rfl⟩
          rw [← hi1] at HFd HCh hlen
          rw [← hnl] at hlen HC
          have hw := wraps_i64 ((i1 : Int) + 1) (by omega) (by omega)
          have hlt : ¬ ((i1 : Int) + 1 < nl) := by simp at hlen; omega
          clear hi1 hnl hy hcut hsr hiv hq hsi hc hlen HF HI HN HTell HT hm1 hm7 hIB
          go_wp2_with (first
            | (go_at_call 40; refine (HFd.out _ (Below.refl _ _)).mono ?_; rintro e w2 ⟨rfl, HB2⟩; have d0 := HC.out _ HB2.out)
            | (go_at_call 41; refine (HCh.out _ HB2.out).mono ?_; rintro e w3 ⟨rfl, rfl⟩)
            | fail)
          rcases HAt.out with ⟨rfl, hl0⟩ | ⟨h', q', F2, hh', rfl, hN'⟩
          · go_roundg h
            case measure => omega
            case rel => exact ⟨lk, _, (.inl ⟨rfl, hl0⟩), HBest.out.on HB2.out, below_step HB.out HB2.out, HNx⟩
          · go_roundg h
            case measure => omega
            case rel => exact ⟨lk, _, (.inr ⟨h', q', F2, by omega, rfl, hN'⟩), HBest.out.on HB2.out, below_step HB.out HB2.out, HNx⟩
        | cons y B2 =>
          have hJe : n.its = (I1 ++ [(k, u)]) ++ y :: B2 := by rw [hy.eq, hIB]; simp
          obtain ⟨g, c, e1, _⟩ := hsr.item hq hJe
          rw [hiv] at e1
          have HBn : Hid (Best wr (.pointer (some ⟨g, (I1 ++ [(k, u)]).length * 2, none⟩)) (some y)) := Best.item hsr hq hJe (by rw [hiv, e1])
          have HNx : Hid ((lk.find? (frP k true)).or (some y) = ans) := by have := HI.out; rw [HF.out, hIB, List.head?_cons, Option.or_assoc, Option.some_or] at this; exact this
          simp only [Value.slice.injEq] at e1
          obtain ⟨rfl, _, rfl⟩ := e1
          rw [hIB] at hlen
          obtain ⟨i1, hi1⟩ : ∃ i1, i1 = I1.length := ⟨_, rfl⟩
          obtain ⟨nl, hnl⟩ : ∃ nl, nl = n.its.length := ⟨_, rfl⟩
          rw [← hi1] at HFd HCh hlen
          rw [← hnl] at hlen HC
          have hj : (I1 ++ [(k, u)]).length * 2 = (i1 + 1) * 2 := by rw [hi1]; simp
          rw [hj] at HBn
          have hw := wraps_i64 ((i1 : Int) + 1) (by omega) (by omega)
          have hlt : (i1 : Int) + 1 < nl := by simp at hlen; omega
          have htn : ((i1 : Int) + 1).toNat = i1 + 1 := by omega
          have hnn : (0 : Int) ≤ (i1 : Int) + 1 := by omega
          clear hi1 hnl hy hcut hsr hiv hq hsi hc hlen HF HI HN HTell HT hm1 hm7 hIB hJe hj
          go_wp2_with (first
            | (go_at_call 40; refine (HFd.out _ (Below.refl _ _)).mono ?_; rintro e w2 ⟨rfl, HB2⟩; have d0 := HC.out _ HB2.out)
            | (go_at_call 41; refine (HCh.out _ HB2.out).mono ?_; rintro e w3 ⟨rfl, rfl⟩)
            | fail)
          rcases HAt.out with ⟨rfl, hl0⟩ | ⟨h', q', F2, hh', rfl, hN'⟩
          · go_roundg h
            case measure => omega
            case rel => exact ⟨lk, _, (.inl ⟨rfl, hl0⟩), HBn.out.on HB2.out, below_step HB.out HB2.out, HNx⟩
          · go_roundg h
            case measure => omega
            case rel => exact ⟨lk, _, (.inr ⟨h', q', F2, by omega, rfl, hN'⟩), HBn.out.on HB2.out, below_step HB.out HB2.out, HNx⟩
      · obtain ⟨v2, lk, hc⟩ := hcut I1 I2 hy.eq
        have HFd : Hid (∀ V, Below wr.heap.size wr V → Calls Tryz.prog 40 #[.pointer (some ⟨q, 0, none⟩), .string k] V fun e w' => e = .returned (.tuple #[.int .i64 I1.length, .bool false]) ∧ Hid (Below V.heap.size V w')) := fun V hV => (find_not (hsr.on hV) hq hsi (by omega) hy)
        have HF := Lib.hid (hc.first (frP_up k true) HN.out.2 (fun x hx => frP_lo (hy.lo x hx)) (fun x hx => frP_hi (hy.hi x hx)))
        have HCh : Hid (∀ V, Below wr.heap.size wr V → Calls Tryz.prog 41 #[.pointer (some ⟨q, 0, none⟩), .int .i64 I1.length] V fun e w' => e = .returned v2 ∧ w' = V) := fun V hV => hc.child V (hsr.on hV)
        have HAt := Lib.hid hc.next
        have hlen : n.its.length = I1.length + I2.length := by rw [hy.eq]; simp
        cases hIB : I2 with
        | nil =>
          have HNx : Hid ((lk.find? (frP k true)).or bo = ans) := by have := HI.out; rw [HF.out, hIB, List.head?_nil, Option.or_none] at this; exact this
          rw [hIB] at hlen
          obtain ⟨i1, hi1⟩ : ∃ i1, i1 = I1.length := ⟨_, rfl⟩
          obtain ⟨nl, hnl⟩ : ∃ nl, nl = n.its.length := ⟨_, rfl⟩
          rw [← hi1] at HFd HCh hlen
          rw [← hnl] at hlen HC
          have hlt : ¬ ((i1 : Int) < nl) := by simp at hlen; omega
          clear hi1 hnl hy hcut hsr hiv hq hsi hc hlen HF HI HN HTell HT hm1 hm7 hIB
          go_wp2_with (first
            | (go_at_call 40; refine (HFd.out _ (Below.refl _ _)).mono ?_; rintro e w2 ⟨rfl, HB2⟩; have d0 := HC.out _ HB2.out)
            | (go_at_call 41; refine (HCh.out _ HB2.out).mono ?_; rintro e w3 ⟨rfl, rfl⟩)
            | fail)
          rcases HAt.out with ⟨rfl, hl0⟩ | ⟨h', q', F2, hh', rfl, hN'⟩
          · go_roundg h
            case measure => omega
            case rel => exact ⟨lk, _, (.inl ⟨rfl, hl0⟩), HBest.out.on HB2.out, below_step HB.out HB2.out, HNx⟩
          · go_roundg h
            case measure => omega
            case rel => exact ⟨lk, _, (.inr ⟨h', q', F2, by omega, rfl, hN'⟩), HBest.out.on HB2.out, below_step HB.out HB2.out, HNx⟩
        | cons y B2 =>
          have hJe : n.its = I1 ++ y :: B2 := by rw [hy.eq, hIB]
          obtain ⟨g, c, e1, _⟩ := hsr.item hq hJe
          rw [hiv] at e1
          have HBn : Hid (Best wr (.pointer (some ⟨g, I1.length * 2, none⟩)) (some y)) := Best.item hsr hq hJe (by rw [hiv, e1])
          have HNx : Hid ((lk.find? (frP k true)).or (some y) = ans) := by have := HI.out; rw [HF.out, hIB, List.head?_cons, Option.or_assoc, Option.some_or] at this; exact this
          simp only [Value.slice.injEq] at e1
          obtain ⟨rfl, _, rfl⟩ := e1
          rw [hIB] at hlen
          obtain ⟨i1, hi1⟩ : ∃ i1, i1 = I1.length := ⟨_, rfl⟩
          obtain ⟨nl, hnl⟩ : ∃ nl, nl = n.its.length := ⟨_, rfl⟩
          rw [← hi1] at HFd HCh hlen
          rw [← hnl] at hlen HC
          rw [← hi1] at HBn
          have hlt : (i1 : Int) < nl := by simp at hlen; omega
          clear hi1 hnl hy hcut hsr hiv hq hsi hc hlen HF HI HN HTell HT hm1 hm7 hIB hJe
          go_wp2_with (first
            | (go_at_call 40; refine (HFd.out _ (Below.refl _ _)).mono ?_; rintro e w2 ⟨rfl, HB2⟩; have d0 := HC.out _ HB2.out)
            | (go_at_call 41; refine (HCh.out _ HB2.out).mono ?_; rintro e w3 ⟨rfl, rfl⟩)
            | fail)
          rcases HAt.out with ⟨rfl, hl0⟩ | ⟨h', q', F2, hh', rfl, hN'⟩
          · go_roundg h
            case measure => omega
            case rel => exact ⟨lk, _, (.inl ⟨rfl, hl0⟩), HBn.out.on HB2.out, below_step HB.out HB2.out, HNx⟩
          · go_roundg h
            case measure => omega
            case rel => exact ⟨lk, _, (.inr ⟨h', q', F2, by omega, rfl, hN'⟩), HBn.out.on HB2.out, below_step HB.out HB2.out, HNx⟩
theorem tfrom_ {w : World} {M : Nat → Option Nd} {p : Nat} {l : List It} {F : Nat → Prop} (hs : Store w M) (ht : TreeAt w M p l F) (k : ByteArray) (b : Bool) :
    Calls Tryz.prog 46 #[.pointer (some ⟨p, 0, none⟩), .string k, .bool b] w fun e w' => e = .returned (tellV (l.find? (frP k b))) ∧ Below w.heap.size w w' := by
  cases b with
  | false => exact from_f hs ht k
  | true => exact from_t hs ht k
end Go.Proofs.YtagamkahfiackaaGreatDoor
