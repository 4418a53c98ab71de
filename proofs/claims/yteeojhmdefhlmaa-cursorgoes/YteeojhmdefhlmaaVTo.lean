/- Tree.To. -/
import Derived.Test.YteeojhmdefhlmaaVDown
namespace Go.Proofs.Yteeojhmdefhlmaa
open Go.RowKit Go.Sort

set_option maxRecDepth 100000 in
set_option maxHeartbeats 2000000 in
theorem to_f {w : World} {M : Nat → Option Nd} {p : Nat} {l : List It} {F : Nat → Prop} (hs : Store w M) (ht : TreeAt w M p l F) (k : ByteArray) :
    Calls Try.prog 42 #[.pointer (some ⟨p, 0, none⟩), .string k, .bool false] w fun e w' => e = .returned (tellV (lastL (toP k false) l)) ∧ Below w.heap.size w w' := by
  obtain ⟨kx0, v0, hat, htop⟩ := ht.top
  have HT := Lib.hid htop
  have HS := Lib.hid hs
  have HA0 := Lib.hid hat
  obtain ⟨ans, hans⟩ : ∃ ans, ans = lastL (toP k false) l := ⟨_, rfl⟩
  have HANS := Lib.hid hans
  rw [← hans]
  have HB0 := Lib.hid (Below.refl w.heap.size w)
  have HTell : Hid (∀ V v o, Best V v o → Calls Try.prog 51 #[v] V fun e w' => ∃ t1 t2 t3, e = .returned (.tuple #[t1, t2, t3]) ∧ Hid (tellV o = .tuple #[t1, t2, t3]) ∧ Hid (Below V.heap.size V w')) := fun V v o hb => (tell_ hb).mono fun e w' ⟨e1, e2⟩ => by
    cases o with
    | none => exact ⟨_, _, _, e1, rfl, e2⟩
    | some x => exact ⟨_, _, _, e1, rfl, e2⟩
  clear hans htop hat hs ht
  go_enter Try.func42, Try.ntmps42
  go_wp2_with (first | (go_at_call 49; refine HT.out.mono ?_; rintro e w1 ⟨rfl, rfl⟩) | fail)
  rename World => w
  go_loopg [9, 10] kx0 (fun kx s9 s10 wr => ∃ lq bo, ((s10 = .pointer none ∧ Hid (lq = [])) ∨ ∃ h q F, h < kx ∧ s10 = .pointer (some ⟨q, 0, none⟩) ∧ Hid (Nod M (h + 1) 1 7 q lq F ∧ Srt lq)) ∧ Hid (Best wr s9 bo) ∧ Hid (Below w.heap.size w wr) ∧ Hid ((lastL (toP k false) lq).or bo = ans))
  case atStart => exact ⟨l, none, HA0.out, .inl ⟨rfl, rfl⟩, HB0, by show _ = _; rw [Option.or_none]; exact HANS.out.symm⟩
  case round =>
    clear HB0 HANS HA0
    obtain ⟨lq, bo, hcase, HBest, HB, HI⟩ := hrel
    rcases hcase with ⟨rfl, HL⟩ | ⟨h, q, F', hh, rfl, HN⟩
    · have HT2 := Lib.hid (HTell.out _ _ _ HBest.out)
      have HO : Hid (bo = ans) := by have := HI.out; rw [HL.out] at this; show bo = ans; simpa [lastL] using this
      clear HTell HI HL HT
      go_wp2_with (first | (go_at_call 51; refine HT2.out.mono ?_; rintro e w2 ⟨t1, t2, t3, rfl, HV, HB2⟩) | fail)
      go_ret3
      exact ⟨by rw [← HO.out, HV.out]; rfl, below_step HB.out HB2.out⟩
    · obtain ⟨n, hq, hm1, hm7, hsi, hcut⟩ := cut_ HN.out.1 HN.out.2
      have hsr := HS.out.on HB.out
      obtain ⟨ai, ci, hiv, _⟩ := row_shape (hsr.its q n hq)
      have HC : Hid (∀ V, Below wr.heap.size wr V → V.cell? ⟨q, 0, none⟩ = some (.slice ai n.its.length ci)) := fun V hV => by rw [((hsr.on hV).cells hq).1, hiv]
      rcases about hsi k with ⟨I1, u, I3, hy⟩ | ⟨I1, I2, hy⟩
      · obtain ⟨g, c, e1, _⟩ := hsr.item hq hy.eq
        have HBn : Hid (Best wr (.pointer (some ⟨g, I1.length * 2, none⟩)) (some (k, u))) := Best.item hsr hq hy.eq (by rw [hiv] at e1 ⊢; rw [e1])
        rw [hiv] at e1
        simp only [Value.slice.injEq] at e1
        obtain ⟨rfl, hlen, rfl⟩ := e1
        have HFd : Hid (∀ V, Below wr.heap.size wr V → Calls Try.prog 50 #[.pointer (some ⟨q, 0, none⟩), .string k] V fun e w' => e = .returned (.tuple #[.int .i64 I1.length, .bool true]) ∧ Hid (Below V.heap.size V w')) := fun V hV => (find_yes (hsr.on hV) hq hsi (by omega) hy)
        have HO : Hid (ans = some (k, u)) := by
          obtain ⟨v2, lk, hc⟩ := hcut I1 ((k, u) :: I3) hy.eq
          obtain ⟨PP, SS, e⟩ := hc.mid
          have hsl := HN.out.2
          rw [e] at hsl
          obtain ⟨g1, g2⟩ := hsl.about_mid
          have := HI.out
          rw [e] at this
          show _ = _
          rw [← this]
          have e1 : PP ++ (k, u) :: SS = (PP ++ [(k, u)]) ++ SS := by simp
          rw [e1, to_leaf (fun x hx => by
            rcases List.mem_append.1 hx with hx | hx
            · exact toP_lo (g1 x hx)
            · rw [List.mem_singleton.1 hx]; simp [toP, ltb_irrefl]) (fun x hx => toP_hi (g2 x hx))]
          simp
        obtain ⟨i1, hi1⟩ : ∃ i1, i1 = I1.length := ⟨_, rfl⟩
        obtain ⟨nl, hnl⟩ : ∃ nl, nl = n.its.length := ⟨_, rfl⟩
        rw [← hi1] at HFd HBn hlen
        rw [← hnl] at hlen HC
        have hlt : (i1 : Int) < nl := by omega
        clear hi1 hnl hy hcut hsr hiv hq hsi hlen HI HN HT hm1 hm7
        go_wp2_with (first
        | (go_at_call 50; refine (HFd.out _ (Below.refl _ _)).mono ?_; rintro e w2 ⟨rfl, HB2⟩; have d0 := HC.out _ HB2.out; have HT2 := Lib.hid (HTell.out _ _ _ (HBn.out.on HB2.out)))
        | (go_at_call 51; refine HT2.out.mono ?_; rintro e w3 ⟨t1, t2, t3, rfl, HV, HB3⟩)
        | fail)
        go_ret3
        exact ⟨by rw [HO.out, HV.out]; rfl, below_step (below_step HB.out HB2.out) HB3.out⟩
      · obtain ⟨v2, lk, hc⟩ := hcut I1 I2 hy.eq
        have HFd : Hid (∀ V, Below wr.heap.size wr V → Calls Try.prog 50 #[.pointer (some ⟨q, 0, none⟩), .string k] V fun e w' => e = .returned (.tuple #[.int .i64 I1.length, .bool false]) ∧ Hid (Below V.heap.size V w')) := fun V hV => (find_not (hsr.on hV) hq hsi (by omega) hy)
        have HF := Lib.hid (hc.last (toP_dn k false) HN.out.2 (fun x hx => toP_lo (hy.lo x hx)) (fun x hx => toP_hi (hy.hi x hx)))
        have HCh : Hid (∀ V, Below wr.heap.size wr V → Calls Try.prog 52 #[.pointer (some ⟨q, 0, none⟩), .int .i64 I1.length] V fun e w' => e = .returned v2 ∧ w' = V) := fun V hV => hc.child V (hsr.on hV)
        have HAt := Lib.hid hc.next
        have hlen : n.its.length = I1.length + I2.length := by rw [hy.eq]; simp
        by_cases hI : I1 = []
        · have h0 : I1.length = 0 := by rw [hI]; rfl
          have HNx : Hid ((lastL (toP k false) lk).or bo = ans) := by have := HI.out; rw [HF.out, hI, List.getLast?_nil, Option.or_none] at this; exact this
          obtain ⟨i1, hi1⟩ : ∃ i1, i1 = I1.length := ⟨_, rfl⟩
          obtain ⟨nl, hnl⟩ : ∃ nl, nl = n.its.length := ⟨_, rfl⟩
          rw [← hi1] at HFd HCh hlen h0
          rw [← hnl] at hlen HC
          have hgt : ¬ ((0 : Int) < i1) := by omega
          clear hi1 hnl hy hcut hsr hiv hq hsi hc hlen HF HI HN HTell HT hm1 hm7 hI h0
          go_wp2_with (first
            | (go_at_call 50; refine (HFd.out _ (Below.refl _ _)).mono ?_; rintro e w2 ⟨rfl, HB2⟩; have d0 := HC.out _ HB2.out)
            | (go_at_call 52; refine (HCh.out _ HB2.out).mono ?_; rintro e w3 ⟨rfl, rfl⟩)
            | fail)
          rcases HAt.out with ⟨rfl, hl0⟩ | ⟨h', q', F2, hh', rfl, hN'⟩
          · go_roundg h
            case measure => omega
            case rel => exact ⟨lk, _, (.inl ⟨rfl, hl0⟩), HBest.out.on HB2.out, below_step HB.out HB2.out, HNx⟩
          · go_roundg h
            case measure => omega
            case rel => exact ⟨lk, _, (.inr ⟨h', q', F2, by omega, rfl, hN'⟩), HBest.out.on HB2.out, below_step HB.out HB2.out, HNx⟩
        · obtain ⟨J, y, hJ⟩ : ∃ J y, I1 = J ++ [y] := ⟨I1.dropLast, I1.getLast hI, (List.dropLast_concat_getLast hI).symm⟩
          have hJl : I1.length = J.length + 1 := by rw [hJ]; simp
          have hJe : n.its = J ++ y :: I2 := by rw [hy.eq, hJ]; simp
          obtain ⟨g, c, e1, _⟩ := hsr.item hq hJe
          rw [hiv] at e1
          have HBn : Hid (Best wr (.pointer (some ⟨g, J.length * 2, none⟩)) (some y)) := Best.item hsr hq hJe (by rw [hiv, e1])
          have HNx : Hid ((lastL (toP k false) lk).or (some y) = ans) := by have := HI.out; rw [HF.out, hJ, List.getLast?_append, List.getLast?_singleton, Option.some_or, Option.or_assoc, Option.some_or] at this; exact this
          simp only [Value.slice.injEq] at e1
          obtain ⟨rfl, _, rfl⟩ := e1
          obtain ⟨i1, hi1⟩ : ∃ i1, i1 = I1.length := ⟨_, rfl⟩
          obtain ⟨nl, hnl⟩ : ∃ nl, nl = n.its.length := ⟨_, rfl⟩
          rw [← hi1] at HFd HCh hlen hJl
          rw [← hnl] at hlen HC
          obtain ⟨j1, hj1⟩ : ∃ j1, j1 = J.length := ⟨_, rfl⟩
          rw [← hj1] at hJl HBn
          have hx : (i1 : Int) - 1 = j1 := by omega
          have hgt : (0 : Int) < i1 := by omega
          have hw := wraps_i64 (j1 : Int) (by omega) (by omega)
          have hlt : (j1 : Int) < nl := by omega
          clear hi1 hnl hy hcut hsr hiv hq hsi hc hlen HF HI HN HTell HT hm1 hm7 hI hJl hJ hJe hj1
          go_wp2_with (first
            | (go_at_call 50; refine (HFd.out _ (Below.refl _ _)).mono ?_; rintro e w2 ⟨rfl, HB2⟩; have d0 := HC.out _ HB2.out)
            | (go_at_call 52; refine (HCh.out _ HB2.out).mono ?_; rintro e w3 ⟨rfl, rfl⟩)
            | fail)
          rcases HAt.out with ⟨rfl, hl0⟩ | ⟨h', q', F2, hh', rfl, hN'⟩
          · go_roundg h
            case measure => omega
            case rel => exact ⟨lk, _, (.inl ⟨rfl, hl0⟩), HBn.out.on HB2.out, below_step HB.out HB2.out, HNx⟩
          · go_roundg h
            case measure => omega
            case rel => exact ⟨lk, _, (.inr ⟨h', q', F2, by omega, rfl, hN'⟩), HBn.out.on HB2.out, below_step HB.out HB2.out, HNx⟩
set_option maxRecDepth 100000 in
set_option maxHeartbeats 2000000 in
theorem to_t {w : World} {M : Nat → Option Nd} {p : Nat} {l : List It} {F : Nat → Prop} (hs : Store w M) (ht : TreeAt w M p l F) (k : ByteArray) :
    Calls Try.prog 42 #[.pointer (some ⟨p, 0, none⟩), .string k, .bool true] w fun e w' => e = .returned (tellV (lastL (toP k true) l)) ∧ Below w.heap.size w w' := by
  obtain ⟨kx0, v0, hat, htop⟩ := ht.top
  have HT := Lib.hid htop
  have HS := Lib.hid hs
  have HA0 := Lib.hid hat
  obtain ⟨ans, hans⟩ : ∃ ans, ans = lastL (toP k true) l := ⟨_, rfl⟩
  have HANS := Lib.hid hans
  rw [← hans]
  have HB0 := Lib.hid (Below.refl w.heap.size w)
  have HTell : Hid (∀ V v o, Best V v o → Calls Try.prog 51 #[v] V fun e w' => ∃ t1 t2 t3, e = .returned (.tuple #[t1, t2, t3]) ∧ Hid (tellV o = .tuple #[t1, t2, t3]) ∧ Hid (Below V.heap.size V w')) := fun V v o hb => (tell_ hb).mono fun e w' ⟨e1, e2⟩ => by
    cases o with
    | none => exact ⟨_, _, _, e1, rfl, e2⟩
    | some x => exact ⟨_, _, _, e1, rfl, e2⟩
  clear hans htop hat hs ht
  go_enter Try.func42, Try.ntmps42
  go_wp2_with (first | (go_at_call 49; refine HT.out.mono ?_; rintro e w1 ⟨rfl, rfl⟩) | fail)
  rename World => w
  go_loopg [9, 10] kx0 (fun kx s9 s10 wr => ∃ lq bo, ((s10 = .pointer none ∧ Hid (lq = [])) ∨ ∃ h q F, h < kx ∧ s10 = .pointer (some ⟨q, 0, none⟩) ∧ Hid (Nod M (h + 1) 1 7 q lq F ∧ Srt lq)) ∧ Hid (Best wr s9 bo) ∧ Hid (Below w.heap.size w wr) ∧ Hid ((lastL (toP k true) lq).or bo = ans))
  case atStart => exact ⟨l, none, HA0.out, .inl ⟨rfl, rfl⟩, HB0, by show _ = _; rw [Option.or_none]; exact HANS.out.symm⟩
  case round =>
    clear HB0 HANS HA0
    obtain ⟨lq, bo, hcase, HBest, HB, HI⟩ := hrel
    rcases hcase with ⟨rfl, HL⟩ | ⟨h, q, F', hh, rfl, HN⟩
    · have HT2 := Lib.hid (HTell.out _ _ _ HBest.out)
      have HO : Hid (bo = ans) := by have := HI.out; rw [HL.out] at this; show bo = ans; simpa [lastL] using this
      clear HTell HI HL HT
      go_wp2_with (first | (go_at_call 51; refine HT2.out.mono ?_; rintro e w2 ⟨t1, t2, t3, rfl, HV, HB2⟩) | fail)
      go_ret3
      exact ⟨by rw [← HO.out, HV.out]; rfl, below_step HB.out HB2.out⟩
    · obtain ⟨n, hq, hm1, hm7, hsi, hcut⟩ := cut_ HN.out.1 HN.out.2
      have hsr := HS.out.on HB.out
      obtain ⟨ai, ci, hiv, _⟩ := row_shape (hsr.its q n hq)
      have HC : Hid (∀ V, Below wr.heap.size wr V → V.cell? ⟨q, 0, none⟩ = some (.slice ai n.its.length ci)) := fun V hV => by rw [((hsr.on hV).cells hq).1, hiv]
      rcases about hsi k with ⟨I1, u, I3, hy⟩ | ⟨I1, I2, hy⟩
      · obtain ⟨v2, lk, hc⟩ := hcut I1 ((k, u) :: I3) hy.eq
        have HFd : Hid (∀ V, Below wr.heap.size wr V → Calls Try.prog 50 #[.pointer (some ⟨q, 0, none⟩), .string k] V fun e w' => e = .returned (.tuple #[.int .i64 I1.length, .bool true]) ∧ Hid (Below V.heap.size V w')) := fun V hV => (find_yes (hsr.on hV) hq hsi (by omega) hy)
        have HF := Lib.hid (hc.last (toP_dn k true) HN.out.2 (fun x hx => toP_lo (hy.lo x hx)) (fun x hx => by
            rcases List.mem_cons.1 hx with rfl | hx
            · simp [toP, ltb_irrefl]
            · exact toP_hi (hy.hi x hx)))
        have HCh : Hid (∀ V, Below wr.heap.size wr V → Calls Try.prog 52 #[.pointer (some ⟨q, 0, none⟩), .int .i64 I1.length] V fun e w' => e = .returned v2 ∧ w' = V) := fun V hV => hc.child V (hsr.on hV)
        have HAt := Lib.hid hc.next
        have hlen : n.its.length = I1.length + I3.length + 1 := by rw [hy.eq]; simp; omega
        by_cases hI : I1 = []
        · have h0 : I1.length = 0 := by rw [hI]; rfl
          have HNx : Hid ((lastL (toP k true) lk).or bo = ans) := by have := HI.out; rw [HF.out, hI, List.getLast?_nil, Option.or_none] at this; exact this
          obtain ⟨i1, hi1⟩ : ∃ i1, i1 = I1.length := ⟨_, rfl⟩
          obtain ⟨nl, hnl⟩ : ∃ nl, nl = n.its.length := ⟨_, rfl⟩
          rw [← hi1] at HFd HCh hlen h0
          rw [← hnl] at hlen HC
          have hgt : ¬ ((0 : Int) < i1) := by omega
          clear hi1 hnl hy hcut hsr hiv hq hsi hc hlen HF HI HN HTell HT hm1 hm7 hI h0
          go_wp2_with (first
            | (go_at_call 50; refine (HFd.out _ (Below.refl _ _)).mono ?_; rintro e w2 ⟨rfl, HB2⟩; have d0 := HC.out _ HB2.out)
            | (go_at_call 52; refine (HCh.out _ HB2.out).mono ?_; rintro e w3 ⟨rfl, rfl⟩)
            | fail)
          rcases HAt.out with ⟨rfl, hl0⟩ | ⟨h', q', F2, hh', rfl, hN'⟩
          · go_roundg h
            case measure => omega
            case rel => exact ⟨lk, _, (.inl ⟨rfl, hl0⟩), HBest.out.on HB2.out, below_step HB.out HB2.out, HNx⟩
          · go_roundg h
            case measure => omega
            case rel => exact ⟨lk, _, (.inr ⟨h', q', F2, by omega, rfl, hN'⟩), HBest.out.on HB2.out, below_step HB.out HB2.out, HNx⟩
        · obtain ⟨J, y, hJ⟩ : ∃ J y, I1 = J ++ [y] := ⟨I1.dropLast, I1.getLast hI, (List.dropLast_concat_getLast hI).symm⟩
          have hJl : I1.length = J.length + 1 := by rw [hJ]; simp
          have hJe : n.its = J ++ y :: ((k, u) :: I3) := by rw [hy.eq, hJ]; simp
          obtain ⟨g, c, e1, _⟩ := hsr.item hq hJe
          rw [hiv] at e1
          have HBn : Hid (Best wr (.pointer (some ⟨g, J.length * 2, none⟩)) (some y)) := Best.item hsr hq hJe (by rw [hiv, e1])
          have HNx : Hid ((lastL (toP k true) lk).or (some y) = ans) := by have := HI.out; rw [HF.out, hJ, List.getLast?_append, List.getLast?_singleton, Option.some_or, Option.or_assoc, Option.some_or] at this; exact this
          simp only [Value.slice.injEq] at e1
          obtain ⟨rfl, _, rfl⟩ := e1
          obtain ⟨i1, hi1⟩ : ∃ i1, i1 = I1.length := ⟨_, rfl⟩
          obtain ⟨nl, hnl⟩ : ∃ nl, nl = n.its.length := ⟨_, rfl⟩
          rw [← hi1] at HFd HCh hlen hJl
          rw [← hnl] at hlen HC
          obtain ⟨j1, hj1⟩ : ∃ j1, j1 = J.length := ⟨_, rfl⟩
          rw [← hj1] at hJl HBn
          have hx : (i1 : Int) - 1 = j1 := by omega
          have hgt : (0 : Int) < i1 := by omega
          have hw := wraps_i64 (j1 : Int) (by omega) (by omega)
          have hlt : (j1 : Int) < nl := by omega
          clear hi1 hnl hy hcut hsr hiv hq hsi hc hlen HF HI HN HTell HT hm1 hm7 hI hJl hJ hJe hj1
          go_wp2_with (first
            | (go_at_call 50; refine (HFd.out _ (Below.refl _ _)).mono ?_; rintro e w2 ⟨rfl, HB2⟩; have d0 := HC.out _ HB2.out)
            | (go_at_call 52; refine (HCh.out _ HB2.out).mono ?_; rintro e w3 ⟨rfl, rfl⟩)
            | fail)
          rcases HAt.out with ⟨rfl, hl0⟩ | ⟨h', q', F2, hh', rfl, hN'⟩
          · go_roundg h
            case measure => omega
            case rel => exact ⟨lk, _, (.inl ⟨rfl, hl0⟩), HBn.out.on HB2.out, below_step HB.out HB2.out, HNx⟩
          · go_roundg h
            case measure => omega
            case rel => exact ⟨lk, _, (.inr ⟨h', q', F2, by omega, rfl, hN'⟩), HBn.out.on HB2.out, below_step HB.out HB2.out, HNx⟩
      · obtain ⟨v2, lk, hc⟩ := hcut I1 I2 hy.eq
        have HFd : Hid (∀ V, Below wr.heap.size wr V → Calls Try.prog 50 #[.pointer (some ⟨q, 0, none⟩), .string k] V fun e w' => e = .returned (.tuple #[.int .i64 I1.length, .bool false]) ∧ Hid (Below V.heap.size V w')) := fun V hV => (find_not (hsr.on hV) hq hsi (by omega) hy)
        have HF := Lib.hid (hc.last (toP_dn k true) HN.out.2 (fun x hx => toP_lo (hy.lo x hx)) (fun x hx => toP_hi (hy.hi x hx)))
        have HCh : Hid (∀ V, Below wr.heap.size wr V → Calls Try.prog 52 #[.pointer (some ⟨q, 0, none⟩), .int .i64 I1.length] V fun e w' => e = .returned v2 ∧ w' = V) := fun V hV => hc.child V (hsr.on hV)
        have HAt := Lib.hid hc.next
        have hlen : n.its.length = I1.length + I2.length := by rw [hy.eq]; simp
        by_cases hI : I1 = []
        · have h0 : I1.length = 0 := by rw [hI]; rfl
          have HNx : Hid ((lastL (toP k true) lk).or bo = ans) := by have := HI.out; rw [HF.out, hI, List.getLast?_nil, Option.or_none] at this; exact this
          obtain ⟨i1, hi1⟩ : ∃ i1, i1 = I1.length := ⟨_, rfl⟩
          obtain ⟨nl, hnl⟩ : ∃ nl, nl = n.its.length := ⟨_, rfl⟩
          rw [← hi1] at HFd HCh hlen h0
          rw [← hnl] at hlen HC
          have hgt : ¬ ((0 : Int) < i1) := by omega
          clear hi1 hnl hy hcut hsr hiv hq hsi hc hlen HF HI HN HTell HT hm1 hm7 hI h0
          go_wp2_with (first
            | (go_at_call 50; refine (HFd.out _ (Below.refl _ _)).mono ?_; rintro e w2 ⟨rfl, HB2⟩; have d0 := HC.out _ HB2.out)
            | (go_at_call 52; refine (HCh.out _ HB2.out).mono ?_; rintro e w3 ⟨rfl, rfl⟩)
            | fail)
          rcases HAt.out with ⟨rfl, hl0⟩ | ⟨h', q', F2, hh', rfl, hN'⟩
          · go_roundg h
            case measure => omega
            case rel => exact ⟨lk, _, (.inl ⟨rfl, hl0⟩), HBest.out.on HB2.out, below_step HB.out HB2.out, HNx⟩
          · go_roundg h
            case measure => omega
            case rel => exact ⟨lk, _, (.inr ⟨h', q', F2, by omega, rfl, hN'⟩), HBest.out.on HB2.out, below_step HB.out HB2.out, HNx⟩
        · obtain ⟨J, y, hJ⟩ : ∃ J y, I1 = J ++ [y] := ⟨I1.dropLast, I1.getLast hI, (List.dropLast_concat_getLast hI).symm⟩
          have hJl : I1.length = J.length + 1 := by rw [hJ]; simp
          have hJe : n.its = J ++ y :: I2 := by rw [hy.eq, hJ]; simp
          obtain ⟨g, c, e1, _⟩ := hsr.item hq hJe
          rw [hiv] at e1
          have HBn : Hid (Best wr (.pointer (some ⟨g, J.length * 2, none⟩)) (some y)) := Best.item hsr hq hJe (by rw [hiv, e1])
          have HNx : Hid ((lastL (toP k true) lk).or (some y) = ans) := by have := HI.out; rw [HF.out, hJ, List.getLast?_append, List.getLast?_singleton, Option.some_or, Option.or_assoc, Option.some_or] at this; exact this
          simp only [Value.slice.injEq] at e1
          obtain ⟨rfl, _, rfl⟩ := e1
          obtain ⟨i1, hi1⟩ : ∃ i1, i1 = I1.length := ⟨_, rfl⟩
          obtain ⟨nl, hnl⟩ : ∃ nl, nl = n.its.length := ⟨_, rfl⟩
          rw [← hi1] at HFd HCh hlen hJl
          rw [← hnl] at hlen HC
          obtain ⟨j1, hj1⟩ : ∃ j1, j1 = J.length := ⟨_, rfl⟩
          rw [← hj1] at hJl HBn
          have hx : (i1 : Int) - 1 = j1 := by omega
          have hgt : (0 : Int) < i1 := by omega
          have hw := wraps_i64 (j1 : Int) (by omega) (by omega)
          have hlt : (j1 : Int) < nl := by omega
          clear hi1 hnl hy hcut hsr hiv hq hsi hc hlen HF HI HN HTell HT hm1 hm7 hI hJl hJ hJe hj1
          go_wp2_with (first
            | (go_at_call 50; refine (HFd.out _ (Below.refl _ _)).mono ?_; rintro e w2 ⟨rfl, HB2⟩; have d0 := HC.out _ HB2.out)
            | (go_at_call 52; refine (HCh.out _ HB2.out).mono ?_; rintro e w3 ⟨rfl, rfl⟩)
            | fail)
          rcases HAt.out with ⟨rfl, hl0⟩ | ⟨h', q', F2, hh', rfl, hN'⟩
          · go_roundg h
            case measure => omega
            case rel => exact ⟨lk, _, (.inl ⟨rfl, hl0⟩), HBn.out.on HB2.out, below_step HB.out HB2.out, HNx⟩
          · go_roundg h
            case measure => omega
            case rel => exact ⟨lk, _, (.inr ⟨h', q', F2, by omega, rfl, hN'⟩), HBn.out.on HB2.out, below_step HB.out HB2.out, HNx⟩
theorem tto_ {w : World} {M : Nat → Option Nd} {p : Nat} {l : List It} {F : Nat → Prop} (hs : Store w M) (ht : TreeAt w M p l F) (k : ByteArray) (b : Bool) :
    Calls Try.prog 42 #[.pointer (some ⟨p, 0, none⟩), .string k, .bool b] w fun e w' => e = .returned (tellV (lastL (toP k b) l)) ∧ Below w.heap.size w w' := by
  cases b with
  | false => exact to_f hs ht k
  | true => exact to_t hs ht k
end Go.Proofs.Yteeojhmdefhlmaa
