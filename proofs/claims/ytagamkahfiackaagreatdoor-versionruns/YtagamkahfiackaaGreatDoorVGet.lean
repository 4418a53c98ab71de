/- Tree.Get. -/
import Derived.Test.YtagamkahfiackaaGreatDoorVDown
namespace Go.Proofs.YtagamkahfiackaaGreatDoor
open Go.RowKit Go.Sort

theorem Cut.get {M : Nat → Option Nd} {h q : Nat} {n : Nd} {l A B lk : List It} {v : Value} {k : ByteArray} (c : Cut M h q n l A B v lk) (hs : Srt l) (hA : ∀ x ∈ A, ltb x.1 k = true) (hB : ∀ x ∈ B, ltb k x.1 = true) : YtagamkahfiackaaGreatDoor.get k l = YtagamkahfiackaaGreatDoor.get k lk := by
  rcases c.parts with ⟨rfl, rfl⟩ | ⟨L1, L2, e1, e2, rfl⟩
  · rw [get_new hA hB]; rfl
  · have hp := List.pairwise_append.1 hs
    have hq := List.pairwise_append.1 hp.2.1
    exact get_mid (pre_lt A L1 hp.1 hA) (suf_gt B L2 hq.2.1 hB)
set_option maxRecDepth 100000 in
set_option maxHeartbeats 2000000 in
theorem tget_ {w : World} {M : Nat → Option Nd} {p : Nat} {l : List It} {F : Nat → Prop} (hs : Store w M) (ht : TreeAt w M p l F) (k : ByteArray) :
    Calls Tryz.prog 23 #[.pointer (some ⟨p, 0, none⟩), .string k] w fun e w' => e = .returned (.tuple #[.slice ((get k l).getD vz).a ((get k l).getD vz).n ((get k l).getD vz).c, .bool (get k l).isSome]) ∧ Below w.heap.size w w' := by
  obtain ⟨kx0, v0, hat, htop⟩ := ht.top
  have HT := Lib.hid htop
  have HS := Lib.hid hs
  have HA0 := Lib.hid hat
  obtain ⟨ans, hans⟩ : ∃ ans, ans = get k l := ⟨_, rfl⟩
  have HANS := Lib.hid hans
  rw [← hans]
  have HB0 := Lib.hid (Below.refl w.heap.size w)
  clear hans htop hat hs ht
  go_enter Tryz.func23, Tryz.ntmps23
  go_wp2_with (first | (go_at_call 39; refine HT.out.mono ?_; rintro e w1 ⟨rfl, rfl⟩) | fail)
  rename World => w
  go_loopg [6] kx0 (fun kx s10 wr => ∃ lq, ((s10 = .pointer none ∧ Hid (lq = [])) ∨ ∃ h q F, h < kx ∧ s10 = .pointer (some ⟨q, 0, none⟩) ∧ Hid (Nod M (h + 1) 1 7 q lq F ∧ Srt lq)) ∧ Hid (Below w.heap.size w wr) ∧ Hid (get k lq = ans))
  case atStart => exact ⟨l, HA0.out, HB0, HANS.out.symm⟩
  case round =>
    clear HB0 HANS HA0
    obtain ⟨lq, hcase, HB, HI⟩ := hrel
    rcases hcase with ⟨rfl, HL⟩ | ⟨h, q, F', hh, rfl, HN⟩
    · have HO : Hid (ans = none) := by have := HI.out; rw [HL.out] at this; exact this.symm
      clear HI HL HT
      go_wp2_with fail
      go_ret2
      exact ⟨by rw [HO.out]; rfl, HB.out⟩
    · obtain ⟨n, hq, hm1, hm7, hsi, hcut⟩ := cut_ HN.out.1 HN.out.2
      have hsr := HS.out.on HB.out
      rcases about hsi k with ⟨I1, u, I3, hy⟩ | ⟨I1, I2, hy⟩
      · obtain ⟨g, c, hiv, _⟩ := hsr.item hq hy.eq
        have HC : Hid (∀ V, Below wr.heap.size wr V → V.cell? ⟨q, 0, none⟩ = some (.slice (some ⟨g, 0, none⟩) (I1.length + I3.length + 1) c) ∧ V.cell? ⟨g, I1.length * 2 + 1, none⟩ = some (.slice u.a u.n u.c)) := fun V hV => by
          obtain ⟨g', c', e1, _, _, t2, _⟩ := (hsr.on hV).item hq hy.eq
          rw [hiv] at e1
          simp only [Value.slice.injEq, Option.some.injEq, Addr.mk.injEq] at e1
          obtain ⟨⟨rfl, _⟩, _⟩ := e1
          exact ⟨by rw [((hsr.on hV).cells hq).1, hiv], t2⟩
        have HFd : Hid (Calls Tryz.prog 40 #[.pointer (some ⟨q, 0, none⟩), .string k] wr fun e w' => e = .returned (.tuple #[.int .i64 I1.length, .bool true]) ∧ Hid (Below wr.heap.size wr w')) := find_yes hsr hq hsi (by omega) hy
        have HO : Hid (ans = some u) := by
          obtain ⟨v2, lk, hc⟩ := hcut I1 ((k, u) :: I3) hy.eq
          obtain ⟨PP, SS, e⟩ := hc.mid
          have hsl := HN.out.2
          rw [e] at hsl
          show _ = _
          rw [← HI.out, e, get_at hsl.about_mid.1]
        clear hy hcut hsr hiv hq hsi HI HN HT hm1 hm7
        generalize I1.length = i1 at *
        generalize I3.length = i3 at *
        have hlt : (i1 : Int) < (i1 : Int) + (i3 : Int) + 1 := by omega
        go_wp2_with (first
          | (go_at_call 40; refine HFd.out.mono ?_; rintro e w2 ⟨rfl, HB2⟩; obtain ⟨d0, d1⟩ := HC.out _ HB2.out)
          | fail)
        go_ret2
        exact ⟨by rw [HO.out]; rfl, below_step HB.out HB2.out⟩
      · obtain ⟨v2, lk, hc⟩ := hcut I1 I2 hy.eq
        have HFd : Hid (Calls Tryz.prog 40 #[.pointer (some ⟨q, 0, none⟩), .string k] wr fun e w' => e = .returned (.tuple #[.int .i64 I1.length, .bool false]) ∧ Hid (Below wr.heap.size wr w')) := find_not hsr hq hsi (by omega) hy
        have HCh : Hid (∀ V, Below wr.heap.size wr V → Calls Tryz.prog 41 #[.pointer (some ⟨q, 0, none⟩), .int .i64 I1.length] V fun e w' => e = .returned v2 ∧ w' = V) := fun V hV => hc.child V (hsr.on hV)
        have HNx : Hid (get k lk = ans) := by show _ = _; rw [← HI.out]; exact (hc.get HN.out.2 hy.lo hy.hi).symm
        have HAt := Lib.hid hc.next
        clear hy hcut hsr hq hsi hc HI HN HT hm1 hm7
        generalize I1.length = i1 at *
        go_wp2_with (first
          | (go_at_call 40; refine HFd.out.mono ?_; rintro e w2 ⟨rfl, HB2⟩)
          | (go_at_call 41; refine (HCh.out _ HB2.out).mono ?_; rintro e w3 ⟨rfl, rfl⟩)
          | fail)
        rcases HAt.out with ⟨rfl, hl0⟩ | ⟨h', q', F2, hh', rfl, hN'⟩
        · go_roundg h
          case measure => omega
          case rel => exact ⟨lk, .inl ⟨rfl, hl0⟩, below_step HB.out HB2.out, HNx⟩
        · go_roundg h
          case measure => omega
          case rel => exact ⟨lk, .inr ⟨h', q', F2, by omega, rfl, hN'⟩, below_step HB.out HB2.out, HNx⟩
end Go.Proofs.YtagamkahfiackaaGreatDoor
