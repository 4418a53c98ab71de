/- Tree.Last, Tree.First. -/
import Derived.Test.YteeojhmdefhlmaaVFrom
namespace Go.Proofs.Yteeojhmdefhlmaa
open Go.RowKit Go.Sort

theorem all_dn : Dn (fun _ => true) := fun _ _ _ _ => rfl
theorem lastL_all (l : List It) : lastL (fun _ => true) l = l.getLast? := by
  unfold lastL
  rw [List.filter_eq_self.2 (fun _ _ => rfl)]
set_option maxRecDepth 100000 in
set_option maxHeartbeats 2000000 in
theorem tlast_ {w : World} {M : Nat → Option Nd} {p : Nat} {l : List It} {F : Nat → Prop} (hs : Store w M) (ht : TreeAt w M p l F) :
    Calls Try.prog 53 #[.pointer (some ⟨p, 0, none⟩)] w fun e w' => e = .returned (tellV l.getLast?) ∧ Below w.heap.size w w' := by
  obtain ⟨kx0, v0, hat, htop⟩ := ht.top
  have HT := Lib.hid htop
  have HS := Lib.hid hs
  have HA0 := Lib.hid hat
  obtain ⟨ans, hans⟩ : ∃ ans, ans = l.getLast? := ⟨_, rfl⟩
  have HANS := Lib.hid hans
  rw [← hans]
  have HB0 := Lib.hid (Below.refl w.heap.size w)
  have HTell : Hid (∀ V v o, Best V v o → Calls Try.prog 51 #[v] V fun e w' => ∃ t1 t2 t3, e = .returned (.tuple #[t1, t2, t3]) ∧ Hid (tellV o = .tuple #[t1, t2, t3]) ∧ Hid (Below V.heap.size V w')) := fun V v o hb => (tell_ hb).mono fun e w' ⟨e1, e2⟩ => by
    cases o with
    | none => exact ⟨_, _, _, e1, rfl, e2⟩
    | some x => exact ⟨_, _, _, e1, rfl, e2⟩
  clear hans htop hat hs ht
  go_enter Try.func53, Try.ntmps53
  go_wp2_with (first | (go_at_call 49; refine HT.out.mono ?_; rintro e w1 ⟨rfl, rfl⟩) | fail)
  rename World => w
  go_loopg [5, 6] kx0 (fun kx s9 s10 wr => ∃ lq bo, ((s10 = .pointer none ∧ Hid (lq = [])) ∨ ∃ h q F, h < kx ∧ s10 = .pointer (some ⟨q, 0, none⟩) ∧ Hid (Nod M (h + 1) 1 7 q lq F ∧ Srt lq)) ∧ Hid (Best wr s9 bo) ∧ Hid (Below w.heap.size w wr) ∧ Hid ((lq.getLast?).or bo = ans))
  case atStart => exact ⟨l, none, HA0.out, .inl ⟨rfl, rfl⟩, HB0, by show _ = _; rw [Option.or_none]; exact HANS.out.symm⟩
  case round =>
    clear HB0 HANS HA0
    obtain ⟨lq, bo, hcase, HBest, HB, HI⟩ := hrel
    rcases hcase with ⟨rfl, HL⟩ | ⟨h, q, F', hh, rfl, HN⟩
    · have HT2 := Lib.hid (HTell.out _ _ _ HBest.out)
      have HO : Hid (bo = ans) := by have := HI.out; rw [HL.out] at this; show bo = ans; simpa using this
      clear HTell HI HL HT
      go_wp2_with (first | (go_at_call 51; refine HT2.out.mono ?_; rintro e w2 ⟨t1, t2, t3, rfl, HV, HB2⟩) | fail)
      go_ret3
      exact ⟨by rw [← HO.out, HV.out]; rfl, below_step HB.out HB2.out⟩
    · obtain ⟨n, hq, hm1, hm7, hsi, hcut⟩ := cut_ HN.out.1 HN.out.2
      have hsr := HS.out.on HB.out
      have hne : n.its ≠ [] := fun e => by rw [e] at hm1; simp at hm1
      obtain ⟨J, y, hJ⟩ : ∃ J y, n.its = J ++ [y] := ⟨n.its.dropLast, n.its.getLast hne, (List.dropLast_concat_getLast hne).symm⟩
      obtain ⟨g, c, hiv, _⟩ := hsr.item hq hJ
      have HC : Hid (∀ V, Below wr.heap.size wr V → V.cell? ⟨q, 0, none⟩ = some (.slice (some ⟨g, 0, none⟩) (J.length + 1) c)) := fun V hV => by rw [((hsr.on hV).cells hq).1, hiv]; simp
      have HBn : Hid (Best wr (.pointer (some ⟨g, J.length * 2, none⟩)) (some y)) := Best.item hsr hq hJ hiv
      obtain ⟨v2, lk, hc⟩ := hcut n.its [] (by simp)
      have hla := hc.last all_dn HN.out.2 (fun _ _ => rfl) (fun _ hx => by cases hx)
      have HNx : Hid (lk.getLast?.or (some y) = ans) := by
        have := HI.out
        rw [lastL_all, lastL_all, hJ, List.getLast?_append, List.getLast?_singleton, Option.some_or] at hla
        rw [hla, Option.or_assoc, Option.some_or] at this
        exact this
      have HCh : Hid (∀ V, Below wr.heap.size wr V → Calls Try.prog 52 #[.pointer (some ⟨q, 0, none⟩), .int .i64 ((J.length : Int) + 1)] V fun e w' => e = .returned v2 ∧ w' = V) := fun V hV => by
        have := hc.child V (hsr.on hV)
        rw [hJ, show ((J ++ [y]).length : Int) = (J.length : Int) + 1 by simp] at this
        exact this
      have HAt := Lib.hid hc.next
      have hJ7 : J.length ≤ 7 := by rw [hJ] at hm7; simp at hm7; omega
      have d0 := HC.out wr (Below.refl _ _)
      have d1 := HC.out wr.drew (below_drew wr)
      have HBd := Lib.hid (below_drew wr)
      clear hcut hsr hiv hq hsi hc hla HI HN HTell HT hm1 hm7 hJ hne
      generalize J.length = j1 at *
      have hw := wraps_i64 (j1 : Int) (by omega) (by omega)
      have hlt : (j1 : Int) < (j1 : Int) + 1 := by omega
      go_wp2_with fail
      go_region_held (fun V => V.cell? ⟨q, 0, none⟩ = some (.slice (some ⟨g, 0, none⟩) (j1 + 1) c)) (go_keep) (fail)
      go_wp2_with (first
        | (go_at_call 52; refine (HCh.out _ HBd.out).mono ?_; rintro e w3 ⟨rfl, rfl⟩)
        | fail)
      rcases HAt.out with ⟨rfl, hl0⟩ | ⟨h', q', F2, hh', rfl, hN'⟩
      · go_roundg h
        case measure => omega
        case rel => exact ⟨lk, _, .inl ⟨rfl, hl0⟩, HBn.out.on HBd.out, below_step HB.out HBd.out, HNx⟩
      · go_roundg h
        case measure => omega
        case rel => exact ⟨lk, _, .inr ⟨h', q', F2, by omega, rfl, hN'⟩, HBn.out.on HBd.out, below_step HB.out HBd.out, HNx⟩
theorem frP_first (x : It) : frP ⟨#[]⟩ false x = true := by
  simp only [frP, Bool.false_eq_true, if_false, Bool.not_eq_true']
  unfold ltb
  have e : (⟨#[]⟩ : ByteArray).toList = [] := by rw [Lib.toList_data]
  rw [e]
  cases x.1.toList <;> rfl
theorem find_first (l : List It) : l.find? (frP ⟨#[]⟩ false) = l.head? := by
  cases l with
  | nil => rfl
  | cons x l => rw [List.find?_cons_of_pos (frP_first x)]; rfl
theorem tfirst_ {w : World} {M : Nat → Option Nd} {p : Nat} {l : List It} {F : Nat → Prop} (hs : Store w M) (ht : TreeAt w M p l F) :
    Calls Try.prog 48 #[.pointer (some ⟨p, 0, none⟩)] w fun e w' => e = .returned (tellV l.head?) ∧ Below w.heap.size w w' := by
  have HF : Hid (Calls Try.prog 39 #[.pointer (some ⟨p, 0, none⟩), .string ⟨#[]⟩, .bool false] w fun e w' => ∃ t1 t2 t3, e = .returned (.tuple #[t1, t2, t3]) ∧ Hid (tellV l.head? = .tuple #[t1, t2, t3]) ∧ Hid (Below w.heap.size w w')) := (tfrom_ hs ht ⟨#[]⟩ false).mono fun e w' ⟨e1, e2⟩ => by
    rw [find_first] at e1
    cases h : l.head? with
    | none => rw [h] at e1; exact ⟨_, _, _, e1, rfl, e2⟩
    | some x => rw [h] at e1; exact ⟨_, _, _, e1, rfl, e2⟩
  clear hs ht
  go_enter Try.func48, Try.ntmps48
  go_wp2_with (first | (go_at_call 39; refine HF.out.mono ?_; rintro e w2 ⟨t1, t2, t3, rfl, HV, HB2⟩) | fail)
  go_ret3
  exact ⟨by rw [HV.out]; rfl, HB2.out⟩
end Go.Proofs.Yteeojhmdefhlmaa
