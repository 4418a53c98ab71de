/- Tree.From; Tree.Last, Tree.First; least; All, and its iterator: the items of a tree that lie in a range, in order; Versions. -/
import Derived.Test.YtalmanfjiblhcaaGreatJ18
import Derived.Test.YtalmanfjiblhcaaGreatJ33
import Derived.RangeFuncWrites
import Derived.RangeFuncBox
import Derived.RangeFuncLeaves
import Derived.RangeFuncCalls
import Derived.RangeFuncBound
import Derived.Shelf.Abstract
import Derived.OwnWalkIn
import Derived.TacticsInMore
import Derived.LoopNIn
import Derived.LoopIn
import Derived.Sort.QuietIn
import Derived.Sort.LoopGhostIn
import Derived.Test.YtalmanfjiblhcaaGreatJ19
import Derived.Deep.CutRange
namespace Go.Proofs.YtalmanfjiblhcaaGreat
open Go.RowKit Go.Sort
set_option maxRecDepth 100000 in
set_option maxHeartbeats 2000000 in
theorem from_f {w : World} {M : Nat → Option Nd} {p : Nat} {l : List It} {F : Nat → Prop} (hs : Store w M) (ht : TreeAt w M p l F) (k : ByteArray) :
 Calls Tryz.prog 120 #[.pointer (some ⟨p, 0, none⟩), .string k, .bool false] w fun e w' => e = .returned (tellV (l.find? (frP k false))) ∧ Below w.heap.size w w' := by
 obtain ⟨kx0, v0, hat, htop⟩ := ht.top
 have HT := Lib.hid htop
 have HS := Lib.hid hs
 have HA0 := Lib.hid hat
 obtain ⟨ans, hans⟩ : ∃ ans, ans = l.find? (frP k false) := ⟨_, rfl⟩
 have HANS := Lib.hid hans
 rw [← hans]
 have HB0 := Lib.hid (Below.refl w.heap.size w)
 have HTell : Hid (∀ V v o, Best V v o → Calls Tryz.prog 147 #[v] V fun e w' => ∃ t1 t2 t3, e = .returned (.tuple #[t1, t2, t3]) ∧ Hid (tellV o = .tuple #[t1, t2, t3]) ∧ Hid (Below V.heap.size V w')) := fun V v o hb => (tell_ hb).mono fun e w' ⟨e1, e2⟩ => by
  cases o with
  | none => exact ⟨_, _, _, e1, rfl, e2⟩
  | some x => exact ⟨_, _, _, e1, rfl, e2⟩
 clear hans htop hat hs ht
 go_enter Tryz.func120, Tryz.ntmps120
 go_wp2_with (first | (go_at_call 96; refine HT.out.mono ?_; rintro e w1 ⟨rfl, rfl⟩) | fail)
 rename World => w
 go_loopg [9, 10] kx0 (fun kx s9 s10 wr => ∃ lq bo, ((s10 = .pointer none ∧ Hid (lq = [])) ∨ ∃ h q F, h < kx ∧ s10 = .pointer (some ⟨q, 0, none⟩) ∧ Hid (Nod M (h + 1) 1 7 q lq F ∧ Srt lq)) ∧ Hid (Best wr s9 bo) ∧ Hid (Below w.heap.size w wr) ∧ Hid ((lq.find? (frP k false)).or bo = ans))
 case atStart => exact ⟨l, none, HA0.out, .inl ⟨rfl, rfl⟩, HB0, by show _ = _; rw [Option.or_none]; exact HANS.out.symm⟩
 case round =>
  clear HB0 HANS HA0
  obtain ⟨lq, bo, hcase, HBest, HB, HI⟩ := hrel
  rcases hcase with ⟨rfl, HL⟩ | ⟨h, q, F', hh, rfl, HN⟩
  · have HT2 := Lib.hid (HTell.out _ _ _ HBest.out)
    have HO : Hid (bo = ans) := by have := HI.out; rw [HL.out] at this; show bo = ans; simpa using this
    clear HTell HI HL HT
    go_wp2_with (first | (go_at_call 147; refine HT2.out.mono ?_; rintro e w2 ⟨t1, t2, t3, rfl, HV, HB2⟩) | fail)
    go_ret3
    exact ⟨by rw [← HO.out, HV.out]; rfl, below_step HB.out HB2.out⟩
  · obtain ⟨n, hq, hm1, hm7, hsi, hcut⟩ := cut_ HN.out.1 HN.out.2
    have hsr := HS.out.on HB.out
    obtain ⟨ai, ci, hiv, _⟩ := row_shape (hsr.its q n hq)
    have HC : Hid (∀ V, Below wr.heap.size wr V → V.cell? ⟨q, 0, none⟩ = some (.slice ai n.its.length ci)) := fun V hV => by rw [((hsr.on hV).cells hq).1, hiv]
    rcases about hsi k with ⟨I1, u, I3, hy⟩ | ⟨I1, I2, hy⟩
    · obtain ⟨g, c, e1, _⟩ := hsr.item hq hy.eq
      have HBn : Hid (Best wr (.pointer (some ⟨g, I1.length * 2, none⟩)) (some (k, u))) := Best.item hsr hq hy.eq (by rw [hiv] at e1 ⊢; rw [e1])
      rw [hiv] at e1
      simp only [Value.slice.injEq] at e1
      obtain ⟨rfl, hlen, rfl⟩ := e1
      have HFd : Hid (∀ V, Below wr.heap.size wr V → Calls Tryz.prog 97 #[.pointer (some ⟨q, 0, none⟩), .string k] V fun e w' => e = .returned (.tuple #[.int .i64 I1.length, .bool true]) ∧ Hid (Below V.heap.size V w')) := fun V hV => (find_yes (hsr.on hV) hq hsi (by omega) hy)
      have HO : Hid (ans = some (k, u)) := by
       obtain ⟨v2, lk, hc⟩ := hcut I1 ((k, u) :: I3) hy.eq
       obtain ⟨PP, SS, e⟩ := hc.mid
       have hsl := HN.out.2
       rw [e] at hsl
       obtain ⟨g1, g2⟩ := hsl.about_mid
       have := HI.out
       rw [e] at this
       show _ = _
       rw [← this, from_leaf (fun x hx => frP_lo (g1 x hx)) (fun x hx => by
        rcases List.mem_cons.1 hx with rfl | hx
        · simp [frP, ltb_irrefl]
        · exact frP_hi (g2 x hx))]
       simp
      obtain ⟨i1, hi1⟩ : ∃ i1, i1 = I1.length := ⟨_, rfl⟩
      obtain ⟨nl, hnl⟩ : ∃ nl, nl = n.its.length := ⟨_, rfl⟩
      rw [← hi1] at HFd HBn hlen
      rw [← hnl] at hlen HC
      have hlt : (i1 : Int) < nl := by omega
      clear hi1 hnl hy hcut hsr hiv hq hsi hlen HI HN HT hm1 hm7
      go_wp2_with (first
      | (go_at_call 97; refine (HFd.out _ (Below.refl _ _)).mono ?_; rintro e w2 ⟨rfl, HB2⟩; have d0 := HC.out _ HB2.out; have HT2 := Lib.hid (HTell.out _ _ _ (HBn.out.on HB2.out)))
      | (go_at_call 147; refine HT2.out.mono ?_; rintro e w3 ⟨t1, t2, t3, rfl, HV, HB3⟩)
      | fail)
      go_ret3
      exact ⟨by rw [HO.out, HV.out]; rfl, below_step (below_step HB.out HB2.out) HB3.out⟩
    · obtain ⟨v2, lk, hc⟩ := hcut I1 I2 hy.eq
      have HFd : Hid (∀ V, Below wr.heap.size wr V → Calls Tryz.prog 97 #[.pointer (some ⟨q, 0, none⟩), .string k] V fun e w' => e = .returned (.tuple #[.int .i64 I1.length, .bool false]) ∧ Hid (Below V.heap.size V w')) := fun V hV => (find_not (hsr.on hV) hq hsi (by omega) hy)
      have HF := Lib.hid (hc.first (frP_up k false) HN.out.2 (fun x hx => frP_lo (hy.lo x hx)) (fun x hx => frP_hi (hy.hi x hx)))
      have HCh : Hid (∀ V, Below wr.heap.size wr V → Calls Tryz.prog 98 #[.pointer (some ⟨q, 0, none⟩), .int .i64 I1.length] V fun e w' => e = .returned v2 ∧ w' = V) := fun V hV => hc.child V (hsr.on hV)
      have HAt := Lib.hid hc.next
      have hlen : n.its.length = I1.length + I2.length := by rw [hy.eq]; simp
      cases hIB : I2 with
      | nil =>
        have HNx : Hid ((lk.find? (frP k false)).or bo = ans) := by have := HI.out; rw [HF.out, hIB, List.head?_nil, Option.or_none] at this; exact this
        rw [hIB] at hlen
        obtain ⟨i1, hi1⟩ : ∃ i1, i1 = I1.length := ⟨_, rfl⟩
        obtain ⟨nl, hnl⟩ : ∃ nl, nl = n.its.length := ⟨_, rfl⟩
        rw [← hi1] at HFd HCh hlen
        rw [← hnl] at hlen HC
        have hlt : ¬ ((i1 : Int) < nl) := by simp at hlen; omega
        clear hi1 hnl hy hcut hsr hiv hq hsi hc hlen HF HI HN HTell HT hm1 hm7 hIB
        go_wp2_with (first
         | (go_at_call 97; refine (HFd.out _ (Below.refl _ _)).mono ?_; rintro e w2 ⟨rfl, HB2⟩; have d0 := HC.out _ HB2.out)
         | (go_at_call 98; refine (HCh.out _ HB2.out).mono ?_; rintro e w3 ⟨rfl, rfl⟩)
         | fail)
        rcases HAt.out with ⟨rfl, hl0⟩ | ⟨h', q', F2, hh', rfl, hN'⟩
        · go_roundg h
          case measure => omega
          case rel => exact ⟨lk, _, (.inl ⟨rfl, hl0⟩), HBest.out.on HB2.out, below_step HB.out HB2.out, HNx⟩
        · go_roundg h
          case measure => omega
          case rel => exact ⟨lk, _, (.inr ⟨h', q', F2, by omega, rfl, hN'⟩), HBest.out.on HB2.out, below_step HB.out HB2.out, HNx⟩
      | cons y B2 =>
        have hJe : n.its = I1 ++ y :: B2 := by rw [hy.eq, hIB]
        obtain ⟨g, c, e1, _⟩ := hsr.item hq hJe
        rw [hiv] at e1
        have HBn : Hid (Best wr (.pointer (some ⟨g, I1.length * 2, none⟩)) (some y)) := Best.item hsr hq hJe (by rw [hiv, e1])
        have HNx : Hid ((lk.find? (frP k false)).or (some y) = ans) := by have := HI.out; rw [HF.out, hIB, List.head?_cons, Option.or_assoc, Option.some_or] at this; exact this
        simp only [Value.slice.injEq] at e1
        obtain ⟨rfl, _, rfl⟩ := e1
        rw [hIB] at hlen
        obtain ⟨i1, hi1⟩ : ∃ i1, i1 = I1.length := ⟨_, rfl⟩
        obtain ⟨nl, hnl⟩ : ∃ nl, nl = n.its.length := ⟨_, rfl⟩
        rw [← hi1] at HFd HCh hlen
        rw [← hnl] at hlen HC
        rw [← hi1] at HBn
        have hlt : (i1 : Int) < nl := by simp at hlen; omega
        clear hi1 hnl hy hcut hsr hiv hq hsi hc hlen HF HI HN HTell HT hm1 hm7 hIB hJe
        go_wp2_with (first
         | (go_at_call 97; refine (HFd.out _ (Below.refl _ _)).mono ?_; rintro e w2 ⟨rfl, HB2⟩; have d0 := HC.out _ HB2.out)
         | (go_at_call 98; refine (HCh.out _ HB2.out).mono ?_; rintro e w3 ⟨rfl, rfl⟩)
         | fail)
        rcases HAt.out with ⟨rfl, hl0⟩ | ⟨h', q', F2, hh', rfl, hN'⟩
        · go_roundg h
          case measure => omega
          case rel => exact ⟨lk, _, (.inl ⟨rfl, hl0⟩), HBn.out.on HB2.out, below_step HB.out HB2.out, HNx⟩
        · go_roundg h
          case measure => omega
          case rel => exact ⟨lk, _, (.inr ⟨h', q', F2, by omega, rfl, hN'⟩), HBn.out.on HB2.out, below_step HB.out HB2.out, HNx⟩
set_option maxRecDepth 100000 in
set_option maxHeartbeats 2000000 in
theorem from_t {w : World} {M : Nat → Option Nd} {p : Nat} {l : List It} {F : Nat → Prop} (hs : Store w M) (ht : TreeAt w M p l F) (k : ByteArray) :
 Calls Tryz.prog 120 #[.pointer (some ⟨p, 0, none⟩), .string k, .bool true] w fun e w' => e = .returned (tellV (l.find? (frP k true))) ∧ Below w.heap.size w w' := by
 obtain ⟨kx0, v0, hat, htop⟩ := ht.top
 have HT := Lib.hid htop
 have HS := Lib.hid hs
 have HA0 := Lib.hid hat
 obtain ⟨ans, hans⟩ : ∃ ans, ans = l.find? (frP k true) := ⟨_, rfl⟩
 have HANS := Lib.hid hans
 rw [← hans]
 have HB0 := Lib.hid (Below.refl w.heap.size w)
 have HTell : Hid (∀ V v o, Best V v o → Calls Tryz.prog 147 #[v] V fun e w' => ∃ t1 t2 t3, e = .returned (.tuple #[t1, t2, t3]) ∧ Hid (tellV o = .tuple #[t1, t2, t3]) ∧ Hid (Below V.heap.size V w')) := fun V v o hb => (tell_ hb).mono fun e w' ⟨e1, e2⟩ => by
  cases o with
  | none => exact ⟨_, _, _, e1, rfl, e2⟩
  | some x => exact ⟨_, _, _, e1, rfl, e2⟩
 clear hans htop hat hs ht
 go_enter Tryz.func120, Tryz.ntmps120
 go_wp2_with (first | (go_at_call 96; refine HT.out.mono ?_; rintro e w1 ⟨rfl, rfl⟩) | fail)
 rename World => w
 go_loopg [9, 10] kx0 (fun kx s9 s10 wr => ∃ lq bo, ((s10 = .pointer none ∧ Hid (lq = [])) ∨ ∃ h q F, h < kx ∧ s10 = .pointer (some ⟨q, 0, none⟩) ∧ Hid (Nod M (h + 1) 1 7 q lq F ∧ Srt lq)) ∧ Hid (Best wr s9 bo) ∧ Hid (Below w.heap.size w wr) ∧ Hid ((lq.find? (frP k true)).or bo = ans))
 case atStart => exact ⟨l, none, HA0.out, .inl ⟨rfl, rfl⟩, HB0, by show _ = _; rw [Option.or_none]; exact HANS.out.symm⟩
 case round =>
  clear HB0 HANS HA0
  obtain ⟨lq, bo, hcase, HBest, HB, HI⟩ := hrel
  rcases hcase with ⟨rfl, HL⟩ | ⟨h, q, F', hh, rfl, HN⟩
  · have HT2 := Lib.hid (HTell.out _ _ _ HBest.out)
    have HO : Hid (bo = ans) := by have := HI.out; rw [HL.out] at this; show bo = ans; simpa using this
    clear HTell HI HL HT
    go_wp2_with (first | (go_at_call 147; refine HT2.out.mono ?_; rintro e w2 ⟨t1, t2, t3, rfl, HV, HB2⟩) | fail)
    go_ret3
    exact ⟨by rw [← HO.out, HV.out]; rfl, below_step HB.out HB2.out⟩
  · obtain ⟨n, hq, hm1, hm7, hsi, hcut⟩ := cut_ HN.out.1 HN.out.2
    have hsr := HS.out.on HB.out
    obtain ⟨ai, ci, hiv, _⟩ := row_shape (hsr.its q n hq)
    have HC : Hid (∀ V, Below wr.heap.size wr V → V.cell? ⟨q, 0, none⟩ = some (.slice ai n.its.length ci)) := fun V hV => by rw [((hsr.on hV).cells hq).1, hiv]
    rcases about hsi k with ⟨I1, u, I3, hy⟩ | ⟨I1, I2, hy⟩
    · obtain ⟨v2, lk, hc⟩ := hcut (I1 ++ [(k, u)]) I3 (by rw [hy.eq]; simp)
      have HFd : Hid (∀ V, Below wr.heap.size wr V → Calls Tryz.prog 97 #[.pointer (some ⟨q, 0, none⟩), .string k] V fun e w' => e = .returned (.tuple #[.int .i64 I1.length, .bool true]) ∧ Hid (Below V.heap.size V w')) := fun V hV => (find_yes (hsr.on hV) hq hsi (by omega) hy)
      have HF := Lib.hid (hc.first (frP_up k true) HN.out.2 (fun x hx => by
       rcases List.mem_append.1 hx with hx | hx
       · exact frP_lo (hy.lo x hx)
       · rw [List.mem_singleton.1 hx]; simp [frP, ltb_irrefl]) (fun x hx => frP_hi (hy.hi x hx)))
      have HCh : Hid (∀ V, Below wr.heap.size wr V → Calls Tryz.prog 98 #[.pointer (some ⟨q, 0, none⟩), .int .i64 ((I1.length : Int) + 1)] V fun e w' => e = .returned v2 ∧ w' = V) := fun V hV => by
       have := hc.child V (hsr.on hV)
       rw [show ((I1 ++ [(k, u)]).length : Int) = (I1.length : Int) + 1 by simp] at this
       exact this
      have HAt := Lib.hid hc.next
      have hlen : n.its.length = I1.length + I3.length + 1 := by rw [hy.eq]; simp; omega
      cases hIB : I3 with
      | nil =>
        have HNx : Hid ((lk.find? (frP k true)).or bo = ans) := by have := HI.out; rw [HF.out, hIB, List.head?_nil, Option.or_none] at this; exact this
        rw [hIB] at hlen
        obtain ⟨i1, hi1⟩ : ∃ i1, i1 = I1.length := ⟨_, rfl⟩
        obtain ⟨nl, hnl⟩ : ∃ nl, nl = n.its.length := ⟨_, rfl⟩
        rw [← hi1] at HFd HCh hlen
        rw [← hnl] at hlen HC
        have hw := wraps_i64 ((i1 : Int) + 1) (by omega) (by omega)
        have hlt : ¬ ((i1 : Int) + 1 < nl) := by simp at hlen; omega
        clear hi1 hnl hy hcut hsr hiv hq hsi hc hlen HF HI HN HTell HT hm1 hm7 hIB
        go_wp2_with (first
         | (go_at_call 97; refine (HFd.out _ (Below.refl _ _)).mono ?_; rintro e w2 ⟨rfl, HB2⟩; have d0 := HC.out _ HB2.out)
         | (go_at_call 98; refine (HCh.out _ HB2.out).mono ?_; rintro e w3 ⟨rfl, rfl⟩)
         | fail)
        rcases HAt.out with ⟨rfl, hl0⟩ | ⟨h', q', F2, hh', rfl, hN'⟩
        · go_roundg h
          case measure => omega
          case rel => exact ⟨lk, _, (.inl ⟨rfl, hl0⟩), HBest.out.on HB2.out, below_step HB.out HB2.out, HNx⟩
        · go_roundg h
          case measure => omega
          case rel => exact ⟨lk, _, (.inr ⟨h', q', F2, by omega, rfl, hN'⟩), HBest.out.on HB2.out, below_step HB.out HB2.out, HNx⟩
      | cons y B2 =>
        have hJe : n.its = (I1 ++ [(k, u)]) ++ y :: B2 := by rw [hy.eq, hIB]; simp
        obtain ⟨g, c, e1, _⟩ := hsr.item hq hJe
        rw [hiv] at e1
        have HBn : Hid (Best wr (.pointer (some ⟨g, (I1 ++ [(k, u)]).length * 2, none⟩)) (some y)) := Best.item hsr hq hJe (by rw [hiv, e1])
        have HNx : Hid ((lk.find? (frP k true)).or (some y) = ans) := by have := HI.out; rw [HF.out, hIB, List.head?_cons, Option.or_assoc, Option.some_or] at this; exact this
        simp only [Value.slice.injEq] at e1
        obtain ⟨rfl, _, rfl⟩ := e1
        rw [hIB] at hlen
        obtain ⟨i1, hi1⟩ : ∃ i1, i1 = I1.length := ⟨_, rfl⟩
        obtain ⟨nl, hnl⟩ : ∃ nl, nl = n.its.length := ⟨_, rfl⟩
        rw [← hi1] at HFd HCh hlen
        rw [← hnl] at hlen HC
        have hj : (I1 ++ [(k, u)]).length * 2 = (i1 + 1) * 2 := by rw [hi1]; simp
        rw [hj] at HBn
        have hw := wraps_i64 ((i1 : Int) + 1) (by omega) (by omega)
        have hlt : (i1 : Int) + 1 < nl := by simp at hlen; omega
        have htn : ((i1 : Int) + 1).toNat = i1 + 1 := by omega
        have hnn : (0 : Int) ≤ (i1 : Int) + 1 := by omega
        clear hi1 hnl hy hcut hsr hiv hq hsi hc hlen HF HI HN HTell HT hm1 hm7 hIB hJe hj
        go_wp2_with (first
         | (go_at_call 97; refine (HFd.out _ (Below.refl _ _)).mono ?_; rintro e w2 ⟨rfl, HB2⟩; have d0 := HC.out _ HB2.out)
         | (go_at_call 98; refine (HCh.out _ HB2.out).mono ?_; rintro e w3 ⟨rfl, rfl⟩)
         | fail)
        rcases HAt.out with ⟨rfl, hl0⟩ | ⟨h', q', F2, hh', rfl, hN'⟩
        · go_roundg h
          case measure => omega
          case rel => exact ⟨lk, _, (.inl ⟨rfl, hl0⟩), HBn.out.on HB2.out, below_step HB.out HB2.out, HNx⟩
        · go_roundg h
          case measure => omega
          case rel => exact ⟨lk, _, (.inr ⟨h', q', F2, by omega, rfl, hN'⟩), HBn.out.on HB2.out, below_step HB.out HB2.out, HNx⟩
    · obtain ⟨v2, lk, hc⟩ := hcut I1 I2 hy.eq
      have HFd : Hid (∀ V, Below wr.heap.size wr V → Calls Tryz.prog 97 #[.pointer (some ⟨q, 0, none⟩), .string k] V fun e w' => e = .returned (.tuple #[.int .i64 I1.length, .bool false]) ∧ Hid (Below V.heap.size V w')) := fun V hV => (find_not (hsr.on hV) hq hsi (by omega) hy)
      have HF := Lib.hid (hc.first (frP_up k true) HN.out.2 (fun x hx => frP_lo (hy.lo x hx)) (fun x hx => frP_hi (hy.hi x hx)))
      have HCh : Hid (∀ V, Below wr.heap.size wr V → Calls Tryz.prog 98 #[.pointer (some ⟨q, 0, none⟩), .int .i64 I1.length] V fun e w' => e = .returned v2 ∧ w' = V) := fun V hV => hc.child V (hsr.on hV)
      have HAt := Lib.hid hc.next
      have hlen : n.its.length = I1.length + I2.length := by rw [hy.eq]; simp
      cases hIB : I2 with
      | nil =>
        have HNx : Hid ((lk.find? (frP k true)).or bo = ans) := by have := HI.out; rw [HF.out, hIB, List.head?_nil, Option.or_none] at this; exact this
        rw [hIB] at hlen
        obtain ⟨i1, hi1⟩ : ∃ i1, i1 = I1.length := ⟨_, rfl⟩
        obtain ⟨nl, hnl⟩ : ∃ nl, nl = n.its.length := ⟨_, rfl⟩
        rw [← hi1] at HFd HCh hlen
        rw [← hnl] at hlen HC
        have hlt : ¬ ((i1 : Int) < nl) := by simp at hlen; omega
        clear hi1 hnl hy hcut hsr hiv hq hsi hc hlen HF HI HN HTell HT hm1 hm7 hIB
        go_wp2_with (first
         | (go_at_call 97; refine (HFd.out _ (Below.refl _ _)).mono ?_; rintro e w2 ⟨rfl, HB2⟩; have d0 := HC.out _ HB2.out)
         | (go_at_call 98; refine (HCh.out _ HB2.out).mono ?_; rintro e w3 ⟨rfl, rfl⟩)
         | fail)
        rcases HAt.out with ⟨rfl, hl0⟩ | ⟨h', q', F2, hh', rfl, hN'⟩
        · go_roundg h
          case measure => omega
          case rel => exact ⟨lk, _, (.inl ⟨rfl, hl0⟩), HBest.out.on HB2.out, below_step HB.out HB2.out, HNx⟩
        · go_roundg h
          case measure => omega
          case rel => exact ⟨lk, _, (.inr ⟨h', q', F2, by omega, rfl, hN'⟩), HBest.out.on HB2.out, below_step HB.out HB2.out, HNx⟩
      | cons y B2 =>
        have hJe : n.its = I1 ++ y :: B2 := by rw [hy.eq, hIB]
        obtain ⟨g, c, e1, _⟩ := hsr.item hq hJe
        rw [hiv] at e1
        have HBn : Hid (Best wr (.pointer (some ⟨g, I1.length * 2, none⟩)) (some y)) := Best.item hsr hq hJe (by rw [hiv, e1])
        have HNx : Hid ((lk.find? (frP k true)).or (some y) = ans) := by have := HI.out; rw [HF.out, hIB, List.head?_cons, Option.or_assoc, Option.some_or] at this; exact this
        simp only [Value.slice.injEq] at e1
        obtain ⟨rfl, _, rfl⟩ := e1
        rw [hIB] at hlen
        obtain ⟨i1, hi1⟩ : ∃ i1, i1 = I1.length := ⟨_, rfl⟩
        obtain ⟨nl, hnl⟩ : ∃ nl, nl = n.its.length := ⟨_, rfl⟩
        rw [← hi1] at HFd HCh hlen
        rw [← hnl] at hlen HC
        rw [← hi1] at HBn
        have hlt : (i1 : Int) < nl := by simp at hlen; omega
        clear hi1 hnl hy hcut hsr hiv hq hsi hc hlen HF HI HN HTell HT hm1 hm7 hIB hJe
        go_wp2_with (first
         | (go_at_call 97; refine (HFd.out _ (Below.refl _ _)).mono ?_; rintro e w2 ⟨rfl, HB2⟩; have d0 := HC.out _ HB2.out)
         | (go_at_call 98; refine (HCh.out _ HB2.out).mono ?_; rintro e w3 ⟨rfl, rfl⟩)
         | fail)
        rcases HAt.out with ⟨rfl, hl0⟩ | ⟨h', q', F2, hh', rfl, hN'⟩
        · go_roundg h
          case measure => omega
          case rel => exact ⟨lk, _, (.inl ⟨rfl, hl0⟩), HBn.out.on HB2.out, below_step HB.out HB2.out, HNx⟩
        · go_roundg h
          case measure => omega
          case rel => exact ⟨lk, _, (.inr ⟨h', q', F2, by omega, rfl, hN'⟩), HBn.out.on HB2.out, below_step HB.out HB2.out, HNx⟩
theorem tfrom_ {w : World} {M : Nat → Option Nd} {p : Nat} {l : List It} {F : Nat → Prop} (hs : Store w M) (ht : TreeAt w M p l F) (k : ByteArray) (b : Bool) :
 Calls Tryz.prog 120 #[.pointer (some ⟨p, 0, none⟩), .string k, .bool b] w fun e w' => e = .returned (tellV (l.find? (frP k b))) ∧ Below w.heap.size w w' := by
 cases b with
 | false => exact from_f hs ht k
 | true => exact from_t hs ht k
end Go.Proofs.YtalmanfjiblhcaaGreat
namespace Go.Proofs.YtalmanfjiblhcaaGreat
open Go.RowKit Go.Sort
theorem frP_first (x : It) : frP ⟨#[]⟩ false x = true := by
 simp only [frP, Bool.false_eq_true, if_false, Bool.not_eq_true']
 unfold ltb
 have e : (⟨#[]⟩ : ByteArray).toList = [] := by rw [Lib.toList_data]
 rw [e]
 cases x.1.toList <;> rfl
theorem find_first (l : List It) : l.find? (frP ⟨#[]⟩ false) = l.head? := by
 cases l with
 | nil => rfl
 | cons x l => rw [List.find?_cons_of_pos (frP_first x)]; rfl
theorem tfirst_ {w : World} {M : Nat → Option Nd} {p : Nat} {l : List It} {F : Nat → Prop} (hs : Store w M) (ht : TreeAt w M p l F) :
 Calls Tryz.prog 146 #[.pointer (some ⟨p, 0, none⟩)] w fun e w' => e = .returned (tellV l.head?) ∧ Below w.heap.size w w' := by
 have HF : Hid (Calls Tryz.prog 120 #[.pointer (some ⟨p, 0, none⟩), .string ⟨#[]⟩, .bool false] w fun e w' => ∃ t1 t2 t3, e = .returned (.tuple #[t1, t2, t3]) ∧ Hid (tellV l.head? = .tuple #[t1, t2, t3]) ∧ Hid (Below w.heap.size w w')) := (tfrom_ hs ht ⟨#[]⟩ false).mono fun e w' ⟨e1, e2⟩ => by
  rw [find_first] at e1
  cases h : l.head? with
  | none => rw [h] at e1; exact ⟨_, _, _, e1, rfl, e2⟩
  | some x => rw [h] at e1; exact ⟨_, _, _, e1, rfl, e2⟩
 clear hs ht
 go_enter Tryz.func146, Tryz.ntmps146
 go_wp2_with (first | (go_at_call 120; refine HF.out.mono ?_; rintro e w2 ⟨t1, t2, t3, rfl, HV, HB2⟩) | fail)
 go_ret3
 exact ⟨by rw [HV.out]; rfl, HB2.out⟩
end Go.Proofs.YtalmanfjiblhcaaGreat
namespace Go.Proofs.YtalmanfjiblhcaaGreat
open Go.RowKit Go.Sort Go.Shelf
attribute [local go_sem] Oper.semAt_some
theorem wide_fn (f : Nat) : Fence.wide.fn f := trivial
theorem wide_round : Fence.wide.round = none := rfl
theorem tell_parts (o : Option It) : ∃ (t1 : ByteArray) (t2 : Vl) (b : Bool), tellV o = .tuple #[.string t1, .slice t2.a t2.n t2.c, .bool b] ∧ ((o = none ∧ b = false) ∨ ∃ x : It, o = some x ∧ t1 = x.1 ∧ t2 = x.2 ∧ b = true) := by
 cases o with
 | none => exact ⟨⟨#[]⟩, vz, false, rfl, .inl ⟨rfl, rfl⟩⟩
 | some x => exact ⟨_, _, _, rfl, .inr ⟨x, rfl, rfl, rfl, rfl⟩⟩
set_option maxRecDepth 100000 in
set_option maxHeartbeats 1000000 in
theorem least_ {w : World} {M : Nat → Option Nd} {p : Nat} {l : List It} {F : Nat → Prop} (hs : Store w M) (ht : TreeAt w M p l F) (r : Rg) :
 Calls Tryz.prog 118 #[.pointer (some ⟨p, 0, none⟩), rgV r] w fun e w' => e = .returned (tellV (lstO r l)) ∧ Below w.heap.size w w' := by
 obtain ⟨t1, t2, b, e1, _⟩ := tell_parts (lstO r l)
 rw [e1]
 obtain ⟨f, t, hf, ho, pf, po⟩ := r
 have HB0 := Lib.hid (below_alloc w (.cells #[.string f, .string t, .bool hf, .bool ho, .bool pf, .bool po] 46))
 cases hf with
 | false =>
   have HC : Hid (Calls Tryz.prog 146 #[.pointer (some ⟨p, 0, none⟩)] (w.alloc (.cells #[.string f, .string t, .bool false, .bool ho, .bool pf, .bool po] 46)) fun e w' => e = .returned (.tuple #[.string t1, .slice t2.a t2.n t2.c, .bool b]) ∧ Below (w.alloc (.cells #[.string f, .string t, .bool false, .bool ho, .bool pf, .bool po] 46)).heap.size (w.alloc (.cells #[.string f, .string t, .bool false, .bool ho, .bool pf, .bool po] 46)) w') := by
    have := tfirst_ (hs.on HB0.out) (ht.on HB0.out)
    rw [← lst_first (r := ⟨f, t, false, ho, pf, po⟩) rfl, e1] at this
    exact this
   clear hs ht e1
   unfold rgV
   dsimp only
   go_enter Tryz.func118, Tryz.ntmps118
   go_wp2_with (first | (go_at_call 146; refine HC.out.mono ?_; rintro e w' ⟨rfl, hb⟩; have HB := Lib.hid hb; clear hb HC) | fail)
   go_ret3
   exact ⟨rfl, below_step HB0.out HB.out⟩
 | true =>
   have HC : Hid (Calls Tryz.prog 120 #[.pointer (some ⟨p, 0, none⟩), .string f, .bool pf] (w.alloc (.cells #[.string f, .string t, .bool true, .bool ho, .bool pf, .bool po] 46)) fun e w' => e = .returned (.tuple #[.string t1, .slice t2.a t2.n t2.c, .bool b]) ∧ Below (w.alloc (.cells #[.string f, .string t, .bool true, .bool ho, .bool pf, .bool po] 46)).heap.size (w.alloc (.cells #[.string f, .string t, .bool true, .bool ho, .bool pf, .bool po] 46)) w') := by
    have := tfrom_ (hs.on HB0.out) (ht.on HB0.out) f pf
    rw [show l.find? (frP f pf) = lstO ⟨f, t, true, ho, pf, po⟩ l by unfold lstO; rw [← frP_beh ⟨f, t, true, ho, pf, po⟩ rfl], e1] at this
    exact this
   clear hs ht e1
   unfold rgV
   dsimp only
   go_enter Tryz.func118, Tryz.ntmps118
   go_wp2_with (first | (go_at_call 120; refine HC.out.mono ?_; rintro e w' ⟨rfl, hb⟩; have HB := Lib.hid hb; clear hb HC) | fail)
   go_ret3
   exact ⟨rfl, below_step HB0.out HB.out⟩
structure Tr (W : World) (M : Nat → Option Nd) (p : Nat) (l : List It) (F : Nat → Prop) (bt br : Nat) (r : Rg) : Prop where
 st : Store W M
 tr : TreeAt W M p l F
 bt : W.heap[bt]? = some (.cells #[.pointer (some ⟨p, 0, none⟩)] 156 (0, 0))
 br : W.heap[br]? = some (.cells #[.string r.f, .string r.t, .bool r.hf, .bool r.ht, .bool r.pf, .bool r.pt] 46 (0, 0))
def KpT (M : Nat → Option Nd) (p bt br : Nat) (W W' : World) : Prop := ∀ k, (Own M k ∨ k = p ∨ k = bt ∨ k = br) → W'.heap[k]? = W.heap[k]?
theorem kpT_t {M : Nat → Option Nd} {p bt br : Nat} {A B C : World} (h : KpT M p bt br A B) (k : KpT M p bt br B C) : KpT M p bt br A C := fun q hq => (k q hq).trans (h q hq)
theorem Tr.lts {W : World} {M : Nat → Option Nd} {p : Nat} {l : List It} {F : Nat → Prop} {bt br : Nat} {r : Rg} (h : Tr W M p l F bt br r) : ∀ k, (Own M k ∨ k = p ∨ k = bt ∨ k = br) → k < W.heap.size := by
 rintro k (q | rfl | rfl | rfl)
 · exact h.st.lt q
 · exact h.tr.lt
 · exact blk_lt h.bt
 · exact blk_lt h.br
theorem Tr.kp {W W' : World} {M : Nat → Option Nd} {p : Nat} {l : List It} {F : Nat → Prop} {bt br : Nat} {r : Rg} (h : Tr W M p l F bt br r) (k : KpT M p bt br W W') : Tr W' M p l F bt br r := by
 have hp := k p (.inr (.inl rfl))
 exact ⟨h.st.keep fun q hq => k q (.inl hq), ⟨h.tr.srt, h.tr.own, h.tr.root.imp (fun ⟨a, b, c⟩ => ⟨a, b, hp.trans c⟩) (fun ⟨a, b, c, d, e⟩ => ⟨a, b, c, d, hp.trans e⟩)⟩, (k bt (.inr (.inr (.inl rfl)))).trans h.bt, (k br (.inr (.inr (.inr rfl)))).trans h.br⟩
theorem Tr.on {W W' : World} {M : Nat → Option Nd} {p : Nat} {l : List It} {F : Nat → Prop} {bt br : Nat} {r : Rg} (h : Tr W M p l F bt br r) (hb : Below W.heap.size W W') : Tr W' M p l F bt br r := h.kp fun k hk => hb.block k (h.lts k hk)
theorem Tr.cells {W : World} {M : Nat → Option Nd} {p : Nat} {l : List It} {F : Nat → Prop} {bt br : Nat} {r : Rg} (h : Tr W M p l F bt br r) : W.cell? ⟨bt, 0, none⟩ = some (.pointer (some ⟨p, 0, none⟩)) ∧ W.cell? ⟨br, 0, none⟩ = some (.string r.f) ∧ W.cell? ⟨br, 1, none⟩ = some (.string r.t) ∧ W.cell? ⟨br, 2, none⟩ = some (.bool r.hf) ∧ W.cell? ⟨br, 3, none⟩ = some (.bool r.ht) ∧ W.cell? ⟨br, 4, none⟩ = some (.bool r.pf) ∧ W.cell? ⟨br, 5, none⟩ = some (.bool r.pt) :=
 ⟨cell_of h.bt rfl, cell_of h.br rfl, cell_of h.br rfl, cell_of h.br rfl, cell_of h.br rfl, cell_of h.br rfl, cell_of h.br rfl⟩
theorem abides_below {β : Type} {B : Nat} {J : β → World → Prop} (h : AbidesFrom B J) {s : β} {W W' : World} (hs : J s W) (hb : Below W.heap.size W W') : J s W' := h s W W' none hs ⟨hb.os, hb.tape, hb.output, hb.size, fun k hk _ => hb.block k hk⟩ (fun r e => by cases e)
def encI (x : It) : Array Value := #[.string x.1, .slice x.2.a x.2.n x.2.c]
set_option maxRecDepth 100000 in
set_option maxHeartbeats 2000000 in
theorem all1_in (n : Nat) (hn : 1 ≤ n) (ly : Nat) {M : Nat → Option Nd} {p : Nat} {l : List It} {F : Nat → Prop} {bt br : Nat} {r : Rg} (J Jx : List It → World → Prop)
 (hY : ∀ pre x W, x ∈ l → J pre W → pre.length < l.length → YieldAt Fence.wide (n - 1) Tryz.prog ly (encI x) W fun e W' => (e = .returned (.bool true) ∧ J (pre ++ [x]) W' ∧ KpT M p bt br W W') ∨ (e = .returned (.bool false) ∧ Jx (pre ++ [x]) W'))
 (W : World) (hJ : AbidesFrom W.heap.size J) (hT : Tr W M p l F bt br r) (h0 : J [] W) :
 CallsIn Fence.wide n Tryz.prog 117 #[.func (.yield ly) #[] #[], .pointer (some ⟨bt, 0, none⟩), .pointer (some ⟨br, 0, none⟩)] W fun e W' => (∃ v, e = .returned v) ∧ ((∃ ys, ys = selR r l ∧ J ys W') ∨ (∃ pre, pre <+: selR r l ∧ Jx pre W')) := by
 have hS := hT.tr.srt
 obtain ⟨j0, e0, hFo0, hnil⟩ := fo_start hS r
 obtain ⟨t1, t2, b, e1, hcur⟩ := tell_parts (lstO r l)
 have HL : Hid (Calls Tryz.prog 118 #[.pointer (some ⟨p, 0, none⟩), rgV r] W fun e w' => e = .returned (.tuple #[.string t1, .slice t2.a t2.n t2.c, .bool b]) ∧ Below W.heap.size W w') := by
  have := least_ hT.st hT.tr r
  rw [e1] at this
  exact this
 rw [e0] at hcur
 obtain ⟨c0, c1, c2, c3, c4, c5, c6⟩ := hT.cells
 have HT := Lib.hid hT
 have HJ := Lib.hid hJ
 have HJ0 : Hid (J (selR r (l.take j0)) W) := by rw [hnil]; exact h0
 have HFo := Lib.hid hFo0
 have HS := Lib.hid hS
 have HCur := Lib.hid hcur
 clear hT hJ h0 hFo0 hS hcur hnil e0 e1
 unfold rgV at *
 refine callsIn_of_wp Tryz.func117 rfl (wide_fn _) ?_ wide_round
 simp only [Tryz.ntmps117, List.size_toArray, List.length_cons, List.length_nil, Nat.reduceAdd, Nat.reduceSub, Array.replicate_succ, Array.replicate_zero, List.push_toArray, List.append_toArray, List.nil_append, List.cons_append]
 gi_wp2
 refine ⟨wide_fn _, (callsIn_wide.2 HL.out).mono ?_⟩
 rintro e W1 ⟨rfl, hb1⟩
 have HT1 := Lib.hid (HT.out.on hb1)
 have HJ1 := Lib.hid (abides_below HJ.out HJ0.out hb1)
 clear hb1 HL HT HJ0 c0 c1 c2 c3 c4 c5 c6
 gi_wp2
 gi_loopg [4, 5, 6] (l.length - j0) (fun kx v1 v2 v3 wr => ∃ j t1 t2 b, l.length - j ≤ kx ∧ v1 = .string t1 ∧ v2 = .slice t2.a t2.n t2.c ∧ v3 = .bool b ∧ Hid ((l[j]? = none ∧ b = false) ∨ ∃ x : It, l[j]? = some x ∧ t1 = x.1 ∧ t2 = x.2 ∧ b = true) ∧ Hid (Fo r l j) ∧ Hid (J (selR r (l.take j)) wr) ∧ Hid (Tr wr M p l F bt br r))
 case atStart => exact ⟨j0, t1, t2, b, Nat.le_refl _, rfl, rfl, rfl, HCur, HFo, HJ1, HT1⟩
 case round =>
  clear HCur HFo HJ1 HT1
  obtain ⟨j, t1, t2, b, hk, rfl, rfl, rfl, HC, HFo, HJj, HT⟩ := hrel
  obtain ⟨c0, c1, c2, c3, c4, c5, c6⟩ := HT.out.cells
  rcases HC.out with ⟨hnone, rfl⟩ | ⟨x, hx, rfl, rfl, rfl⟩
  · have hjl : l.length ≤ j := List.getElem?_eq_none_iff.1 hnone
    have HE : Hid (selR r (l.take j) = selR r l) := by show _ = _; rw [List.take_of_length_le hjl]
    clear hnone HC
    gi_wp2
    refine ⟨wide_fn _, ?_⟩
    gi_wp2
    refine ⟨fun f _ => wide_fn f, ?_⟩
    gi_wp2
    go_end0
    exact ⟨⟨_, rfl⟩, .inl ⟨_, rfl, by rw [← HE.out]; exact HJj.out⟩⟩
  · have hjl := (List.getElem?_eq_some_iff.1 hx).1
    have HX := Lib.hid hx
    have HA := Lib.hid (ahd_ r x.1)
    clear hx HC
    cases hah : ahdR r x.1 with
    | false =>
      rw [hah] at HA
      unfold rgV at HA
      have HE := Lib.hid (Fo.stop (r := r) HS.out HX.out hah)
      clear hah
      gi_wp2
      refine ⟨wide_fn _, (callsIn_wide.2 (HA.out wr)).mono ?_⟩
      rintro e W2 ⟨rfl, hb2⟩
      have HJ2 := Lib.hid (abides_below HJ.out HJj.out hb2)
      clear hb2
      gi_wp2
      refine ⟨fun f _ => wide_fn f, ?_⟩
      gi_wp2
      go_end0
      exact ⟨⟨_, rfl⟩, .inl ⟨_, rfl, by rw [← HE.out]; exact HJ2.out⟩⟩
    | true =>
      rw [hah] at HA
      unfold rgV at HA
      have HH := Lib.hid (HFo.out.here HX.out hah)
      clear hah
      gi_wp2
      refine ⟨wide_fn _, (callsIn_wide.2 (HA.out wr)).mono ?_⟩
      rintro e W2 ⟨rfl, hb2⟩
      have HT2 := Lib.hid (HT.out.on hb2)
      have hJ2 := abides_below HJ.out HJj.out hb2
      have hple : (selR r (l.take j)).length < l.length := Nat.lt_of_le_of_lt (List.length_filter_le _ _) (by rw [List.length_take]; omega)
      obtain ⟨fn, tmps, assign, body, hy, hR⟩ := hY (selR r (l.take j)) x W2 (List.mem_of_getElem? HX.out) hJ2 hple
      unfold encI at hy
      have HR := Lib.hid hR
      have HSn : Hid (selR r (l.take (j + 1)) = selR r (l.take j) ++ [x]) := by show _ = _; rw [sel_snoc HX.out, if_pos HH.out]
      clear hR hJ2 hb2 HT HJj hple c0 c1 c2 c3 c4 c5 c6
      gi_wp2
      refine HR.out.mono ?_
      rintro e W3 (⟨rfl, hJ3, hk3⟩ | ⟨rfl, hJx3⟩)
      · have HT3 := Lib.hid (HT2.out.kp hk3)
        obtain ⟨t1, t2, b, e1, hcur⟩ := tell_parts (l.find? (frP x.1 true))
        have HN : Hid (Calls Tryz.prog 120 #[.pointer (some ⟨p, 0, none⟩), .string x.1, .bool true] W3 fun e w' => e = .returned (.tuple #[.string t1, .slice t2.a t2.n t2.c, .bool b]) ∧ Below W3.heap.size W3 w') := by
         have := tfrom_ HT3.out.st HT3.out.tr x.1 true
         rw [e1] at this
         exact this
        rw [next_at HS.out HX.out] at hcur
        have HCur := Lib.hid hcur
        have HJ3 := Lib.hid hJ3
        obtain ⟨c0, c1, c2, c3, c4, c5, c6⟩ := HT3.out.cells
        clear hJ3 hk3 HR hy hcur e1 HT2
        gi_wp2
        refine ⟨wide_fn _, (callsIn_wide.2 HN.out).mono ?_⟩
        rintro e W4 ⟨rfl, hb4⟩
        have HT4 := Lib.hid (HT3.out.on hb4)
        have HJ4 : Hid (J (selR r (l.take (j + 1))) W4) := by rw [HSn.out]; exact abides_below HJ.out HJ3.out hb4
        clear hb4 HN HT3 HJ3 c0 c1 c2 c3 c4 c5 c6
        gi_wp2
        gi_roundg (l.length - (j + 1))
        case measure => omega
        case rel => exact ⟨j + 1, t1, t2, b, Nat.le_refl _, rfl, rfl, rfl, HCur, HFo.out.step HX.out, HJ4, HT4⟩
      · have HJ3 := Lib.hid hJx3
        clear hJx3 HR
        gi_wp2
        go_end0
        exact ⟨⟨_, rfl⟩, .inr ⟨_, by rw [← HSn.out]; exact sel_pre r l (j + 1), HJ3.out⟩⟩
def encS {l : List It} (x : { x : It // x ∈ l }) : Array Value := encI x.1
theorem all_stopsS (n : Nat) (hn : 1 ≤ n) {M : Nat → Option Nd} {p : Nat} {l : List It} {F : Nat → Prop} {bt br : Nat} {r : Rg} {w : World} (hT : Tr w M p l F bt br r) :
 SeqStopsK Fence.wide n Tryz.prog 117 #[.pointer (some ⟨bt, 0, none⟩), .pointer (some ⟨br, 0, none⟩)] (encS (l := l)) (KpT M p bt br) (fun ys => ys.map (·.1) = selR r l) (fun pre => pre.map (·.1) <+: selR r l) l.length w := fun ly J Jx W hW hJ hJx hY h0 => by
 refine (all1_in (M := M) (l := l) n hn ly (fun pre W => ∃ q : List { x : It // x ∈ l }, q.map (·.1) = pre ∧ J q W) (fun pre W => ∃ q : List { x : It // x ∈ l }, q.map (·.1) = pre ∧ Jx q W) (fun pre x W hx hp hlen => ?_) W (fun pre A B row ⟨q, e, hq⟩ hg hr => ⟨q, e, hJ q A B row hq hg hr⟩) (hT.on hW) ⟨[], rfl, h0⟩).mono ?_
 · obtain ⟨q, rfl, hq⟩ := hp
   have hlen' : q.length < l.length := by simpa using hlen
   refine (hY q ⟨x, hx⟩ W hq hlen').mono ?_
   rintro e W' (⟨e1, e2, e3⟩ | ⟨e1, e2⟩)
   · exact .inl ⟨e1, ⟨q ++ [⟨x, hx⟩], by simp, e2⟩, e3⟩
   · exact .inr ⟨e1, ⟨q ++ [⟨x, hx⟩], by simp, e2⟩⟩
 · rintro e W' ⟨h1, ⟨ys, h2, q, h3, h4⟩ | ⟨pre, h2, q, h3, h4⟩⟩
   · exact ⟨h1, .inl ⟨q, h3.trans h2, h4⟩⟩
   · exact ⟨h1, .inr ⟨q, by show List.map _ q <+: _; rw [h3]; exact h2, h4⟩⟩
set_option maxHeartbeats 1000000 in
theorem all_ (p : Nat) (r : Rg) (w : World) :
 Calls Tryz.prog 82 #[.pointer (some ⟨p, 0, none⟩), rgV r] w fun e w' => e = .returned (.func (.func 117) #[] #[.pointer (some ⟨w.heap.size, 0, none⟩), .pointer (some ⟨w.heap.size + 1, 0, none⟩)]) ∧ w' = (w.alloc (.cells #[.pointer (some ⟨p, 0, none⟩)] 156)).alloc (.cells #[.string r.f, .string r.t, .bool r.hf, .bool r.ht, .bool r.pf, .bool r.pt] 46) := by
 unfold rgV
 go_enter Tryz.func82, Tryz.ntmps82
 go_wp2_with fail
 go_ret
 exact ⟨rfl, rfl⟩
end Go.Proofs.YtalmanfjiblhcaaGreat
namespace Go.Proofs.YtalmanfjiblhcaaGreat
open Go.RowKit Go.Sort Go.Shelf
attribute [local go_sem] Oper.semAt_some
theorem fold2 (i j : Nat) (u v : Value) (t : Array Value) : (#[i, j].zip #[u, v]).foldl (fun t (p, v) => t.setIfInBounds p v) t = (t.setIfInBounds i u).setIfInBounds j v := by simp
def AllTo (p : Nat) (r : Rg) (W : World) (e : Ending) (w' : World) : Prop := ∃ bt br, e = .returned (.func (.func 117) #[] #[.pointer (some ⟨bt, 0, none⟩), .pointer (some ⟨br, 0, none⟩)]) ∧
 Hid (Below W.heap.size W w' ∧ w'.heap[bt]? = some (.cells #[.pointer (some ⟨p, 0, none⟩)] 156 (0, 0)) ∧ w'.heap[br]? = some (.cells #[.string r.f, .string r.t, .bool r.hf, .bool r.ht, .bool r.pf, .bool r.pt] 46 (0, 0)) ∧ W.heap.size ≤ bt ∧ W.heap.size ≤ br)
theorem allB_ (p : Nat) (r : Rg) (W : World) : Calls Tryz.prog 82 #[.pointer (some ⟨p, 0, none⟩), rgV r] W (AllTo p r W) :=
 (all_ p r W).mono fun e w' ⟨e1, e2⟩ => by
   obtain ⟨b0, b1, b2⟩ := two_box W (.cells #[.pointer (some ⟨p, 0, none⟩)] 156) (.cells #[.string r.f, .string r.t, .bool r.hf, .bool r.ht, .bool r.pf, .bool r.pt] 46)
   rw [← e2] at b0 b1 b2
   exact ⟨_, _, e1, b0, b1, b2, Nat.le_refl _, Nat.le_succ _⟩
theorem VnD.seq {W : Zn} {V : World} {ps p : Nat} {M : Nat → Option Nd} {F : Nat → Prop} {l : List It} {rd : Nat → List MV} (h : VnD W V ps p M F l rd) {bt br : Nat} {r : Rg} (hbt : V.heap[bt]? = some (.cells #[.pointer (some ⟨p, 0, none⟩)] 156 (0, 0))) (hbr : V.heap[br]? = some (.cells #[.string r.f, .string r.t, .bool r.hf, .bool r.ht, .bool r.pf, .bool r.pt] 46 (0, 0))) : Tr V M p l F bt br r := ⟨h.wk.st, h.tr, hbt, hbr⟩
structure CnV (w : World) (b : Nat) (z : Int) (W : World) : Prop where
 bx : Boxed W b 3 (.int .i64 z)
 old : Below w.heap.size w W
 lo : w.heap.size ≤ b
theorem CnV.grown {w W W' : World} {b B : Nat} {z : Int} {row : Option Nat} (h : CnV w b z W) (hB : b < B) (hg : W.grownBy W' row) (hr : ∀ r, row = some r → B ≤ r) : CnV w b z W' := by
 have key : ∀ k, k < B → k < W.heap.size → W'.heap[k]? = W.heap[k]? := fun k hk hl => hg.block k hl (fun e => by have := hr k e.symm; omega)
 exact ⟨(key _ hB h.bx.lt).trans h.bx, ⟨hg.os.trans h.old.os, hg.tape.trans h.old.tape, hg.output.trans h.old.output, Nat.le_trans h.old.size hg.size, fun k hk => (key k (by have := h.lo; omega) (by have := h.old.size; omega)).trans (h.old.block k hk)⟩, h.lo⟩
theorem CnV.set {w W : World} {b : Nat} {z : Int} (h : CnV w b z W) (y : Int) : CnV w b y (W.setCell ⟨b, 0, none⟩ (.int .i64 y)) :=
 ⟨h.bx.set _, ⟨h.old.os, h.old.tape, h.old.output, by rw [size_set]; exact h.old.size, fun k hk => (heap_far _ (by have := h.lo; omega)).trans (h.old.block k hk)⟩, h.lo⟩
end Go.Proofs.YtalmanfjiblhcaaGreat
