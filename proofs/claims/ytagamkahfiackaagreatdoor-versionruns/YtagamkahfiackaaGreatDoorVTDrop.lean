/- Tree.Drop. -/
import Derived.Test.YtagamkahfiackaaGreatDoorJ3
import Derived.Test.YtagamkahfiackaaGreatDoorVDrop
namespace Go.Proofs.YtagamkahfiackaaGreatDoor
open Go.RowKit Go.Sort

set_option maxRecDepth 100000 in
set_option maxHeartbeats 1000000 in
theorem tdrop_walk {w : World} {R : Ending → World → Prop} {p q n0 : Nat} {u : Vl} {k : ByteArray} (b : Bool) (hn0 : n0 ≤ 1000000) (hp0 : w.cell? ⟨p, 0, none⟩ = some (.pointer (some ⟨q, 0, none⟩)))
    (HTop : Calls Tryz.prog 39 #[.pointer (some ⟨p, 0, none⟩)] w fun e w' => e = .returned (.pointer (some ⟨q, 0, none⟩)) ∧ w' = w)
    (HDrop : Calls Tryz.prog 49 #[.pointer (some ⟨q, 0, none⟩), .string k] w fun e w1 => e = .returned (.tuple #[.slice u.a u.n u.c, .bool b]) ∧ w1.cell? ⟨p, 1, none⟩ = some (.int .i64 n0) ∧ ∃ W a m c, (if b then (Instr.storeAt 3 (.pointer (some ⟨p, 1, none⟩)) (.int .i64 ((n0 : Int) - 1))).run Tryz.prog w1 = .ok () W else W = w1) ∧ W.cell? ⟨p, 0, none⟩ = some (.pointer (some ⟨q, 0, none⟩)) ∧ W.cell? ⟨q, 0, none⟩ = some (.slice a m c) ∧ (m ≠ 0 → R (.returned (.tuple #[.slice u.a u.n u.c, .bool b])) W) ∧ (m = 0 → ∃ r W2, Calls Tryz.prog 41 #[.pointer (some ⟨q, 0, none⟩), .int .i64 0] W (fun e W' => e = .returned (.pointer r) ∧ W' = W) ∧ (Instr.storeAt 82 (.pointer (some ⟨p, 0, none⟩)) (.pointer r)).run Tryz.prog W = .ok () W2 ∧ R (.returned (.tuple #[.slice u.a u.n u.c, .bool b])) W2)) :
    Calls Tryz.prog 34 #[.pointer (some ⟨p, 0, none⟩), .string k] w R := by
  have HD := Lib.hid HDrop
  have HT := Lib.hid HTop
  clear HDrop HTop
  have w1 := wraps_i64 ((n0 : Int) - 1) (by omega) (by omega)
  cases b with
  | true =>
    go_enter Tryz.func34, Tryz.ntmps34
    go_wp2_with (first
      | (go_at_call 39; refine HT.out.mono ?_; rintro e w2 ⟨rfl, hw⟩; have hw := hw.symm; subst hw)
      | (go_at_call 49; refine HD.out.mono ?_; rintro e w3 ⟨rfl, c1, W, a, m, c, hW, r0, r1, hz1, hz2⟩; have hst : (Instr.storeAt 3 (.pointer (some ⟨p, 1, none⟩)) (.int .i64 ((n0 : Int) - 1))).run Tryz.prog w3 = .ok () W := hW; clear hW; have HZ1 := Lib.hid hz1; have HZ2 := Lib.hid hz2; clear hz1 hz2)
      | (refine wpList_store_at rfl _ _ _ rfl _ _ rfl rfl hst ?_; by_cases hm : m = 0)
      | fail)
    · subst hm
      obtain ⟨r, W2, g1, g2, g3⟩ := HZ2.out rfl
      have G1 := Lib.hid g1
      have G3 := Lib.hid g3
      clear HZ1 HZ2 HD HT hst c1 g1 g3
      go_wp2_with (first
        | (go_at_call 41; refine G1.out.mono ?_; rintro e w5 ⟨rfl, hw⟩; have hw := hw.symm; subst hw)
        | (refine wpList_store_at rfl _ _ _ rfl _ _ rfl rfl g2 ?_)
        | fail)
      exact G3.out
    · have hne : ¬ ((m : Int) = 0) := by omega
      have G3 := Lib.hid (HZ1.out hm)
      clear HZ1 HZ2 HD HT hst c1
      go_wp2_with fail
      exact G3.out
  | false =>
    go_enter Tryz.func34, Tryz.ntmps34
    go_wp2_with (first
      | (go_at_call 39; refine HT.out.mono ?_; rintro e w2 ⟨rfl, hw⟩; have hw := hw.symm; subst hw)
      | (go_at_call 49; refine HD.out.mono ?_; rintro e w3 ⟨rfl, c1, W, a, m, c, hW, r0, r1, hz1, hz2⟩; obtain rfl : W = w3 := hW; have HZ1 := Lib.hid hz1; have HZ2 := Lib.hid hz2; clear hz1 hz2 c1; by_cases hm : m = 0)
      | fail)
    · subst hm
      obtain ⟨r, W2, g1, g2, g3⟩ := HZ2.out rfl
      have G1 := Lib.hid g1
      have G3 := Lib.hid g3
      clear HZ1 HZ2 HD HT g1 g3
      go_wp2_with (first
        | (go_at_call 41; refine G1.out.mono ?_; rintro e w5 ⟨rfl, hw⟩; have hw := hw.symm; subst hw)
        | (refine wpList_store_at rfl _ _ _ rfl _ _ rfl rfl g2 ?_)
        | fail)
      exact G3.out
    · have hne : ¬ ((m : Int) = 0) := by omega
      have G3 := Lib.hid (HZ1.out hm)
      clear HZ1 HZ2 HD HT
      go_wp2_with fail
      exact G3.out
set_option maxRecDepth 100000 in
theorem tdrop_none {w : World} {p : Nat} (k : ByteArray) (HTop : Calls Tryz.prog 39 #[.pointer (some ⟨p, 0, none⟩)] w fun e w' => e = .returned (.pointer none) ∧ w' = w) :
    Calls Tryz.prog 34 #[.pointer (some ⟨p, 0, none⟩), .string k] w fun e w' => e = .returned (.tuple #[.slice none 0 0, .bool false]) ∧ w' = w := by
  have HT := Lib.hid HTop
  clear HTop
  go_enter Tryz.func34, Tryz.ntmps34
  go_wp2_with (first
    | (go_at_call 39; refine HT.out.mono ?_; rintro e w2 ⟨rfl, hw⟩; have hw := hw.symm; subst hw)
    | fail)
  go_ret2
  exact ⟨rfl, rfl⟩
/-- What Drop leaves. -/
def TDrop (w : World) (M : Nat → Option Nd) (p : Nat) (l : List It) (F : Nat → Prop) (k : ByteArray) (e : Ending) (w' : World) : Prop :=
  e = .returned (.tuple #[.slice ((get k l).getD vz).a ((get k l).getD vz).n ((get k l).getD vz).c, .bool (get k l).isSome]) ∧ ∃ M' F', KeptT M M' F F' p w w' ∧ TreeAt w' M' p (del k l) F'
theorem del_len {l : List It} (h : Srt l) (k : ByteArray) : l.length = if (get k l).isSome then (del k l).length + 1 else (del k l).length := by
  rcases h.about k with ⟨e, g⟩ | ⟨u, e, g⟩
  · rw [g]
    simp only [Option.isSome_none, Bool.false_eq_true, if_false]
    conv => lhs; rw [e]
    simp [del]
  · rw [g]
    simp only [Option.isSome_some, if_true]
    conv => lhs; rw [e]
    simp [del]; omega
theorem tdrop_ {w : World} {M : Nat → Option Nd} {p : Nat} {l : List It} {F : Nat → Prop} (hs : Store w M) (ht : TreeAt w M p l F) (hl : l.length ≤ 1000000) (k : ByteArray) :
    Calls Tryz.prog 34 #[.pointer (some ⟨p, 0, none⟩), .string k] w (TDrop w M p l F k) := by
  rcases ht.root with ⟨rfl, hno, hp⟩ | ⟨h, q, hne, hN, hp⟩
  · refine (tdrop_none k (top_ rfl hp)).mono fun e w' ⟨he, hw⟩ => ?_
    subst hw
    exact ⟨he, M, F, ⟨hs, Ext.refl _ _, fun _ _ _ => rfl, fun _ g => .inl g⟩, ht⟩
  · refine tdrop_walk (n0 := l.length) (u := (get k l).getD vz) (get k l).isSome hl (cell_of hp rfl) (top_ rfl hp) ((drop_ h k (Nat.le_refl _) hs hN ht.srt).mono fun e w1 he => ?_)
    obtain ⟨e1, M1, F1, hk, hN1⟩ := he
    obtain ⟨p1, p2⟩ := hk.ext.stays hp ht.own
    have hkt : KeptT M M1 F F1 p w w1 := ⟨hk.st, hk.ext.widen p, hk.rest, hk.new⟩
    have hdl := del_len ht.srt k
    -- the count set
    obtain ⟨W, hW, hWk, hWp⟩ : ∃ W, (if (get k l).isSome then (Instr.storeAt 3 (.pointer (some ⟨p, 1, none⟩)) (.int .i64 ((l.length : Int) - 1))).run Tryz.prog w1 = .ok () W else W = w1) ∧ KeptT M M1 F F1 p w W ∧ W.heap[p]? = some (.cells #[.pointer (some ⟨q, 0, none⟩), .int .i64 (del k l).length] 84 (0, 0)) := by
      by_cases hg : (get k l).isSome = true
      · rw [if_pos hg] at hdl
        simp only [if_pos hg]
        refine ⟨w1.setCell ⟨p, 1, none⟩ (.int .i64 ((l.length : Int) - 1)), store_one (cell_of p1 rfl) (frozen_of p1) (by kernel_rfl) rfl rfl, ⟨hk.st.far p2, hkt.ext.setp, hk.rest, hk.new⟩, ?_⟩
        have := heap_set (o := 1) (.int .i64 ((l.length : Int) - 1)) p1
        rw [show ((l.length : Int) - 1) = ((del k l).length : Int) by omega] at this ⊢
        simpa using this
      · rw [if_neg hg] at hdl
        simp only [if_neg hg]
        exact ⟨w1, rfl, hkt, by rw [← hdl]; exact p1⟩
    obtain ⟨n, ls, Fk, hq, b1, b2, b3, b4, kk, hwv, hqn, hF⟩ := id hN1
    obtain ⟨a, c, c0⟩ := items_cell hWk.st hq
    refine ⟨e1, cell_of p1 rfl, W, a, n.its.length, c, hW, cell_of hWp rfl, c0, fun hm => ?_, fun hm => ?_⟩
    · refine ⟨rfl, M1, F1, hWk, ht.srt.del k, p2, .inr ⟨h, q, ?_, ⟨n, ls, Fk, hq, by omega, b2, b3, b4, kk, hwv, hqn, hF⟩, hWp⟩⟩
      have hN2 : Nod M1 (h + 1) 1 7 q (del k l) F1 := ⟨n, ls, Fk, hq, by omega, b2, b3, b4, kk, hwv, hqn, hF⟩
      have := hN2.full
      exact fun e => by rw [e] at this; simp at this
    · have hits : n.its = [] := List.eq_nil_of_length_eq_zero hm
      have hst : ∀ r, (Instr.storeAt 82 (.pointer (some ⟨p, 0, none⟩)) (.pointer r)).run Tryz.prog W = .ok () (W.setCell ⟨p, 0, none⟩ (.pointer r)) := fun r => store_one (cell_of hWp rfl) (frozen_of hWp) (by kernel_rfl) rfl rfl
      have hkr : ∀ r F2, (∀ x, F2 x → F1 x) → KeptT M M1 F F2 p w (W.setCell ⟨p, 0, none⟩ (.pointer r)) := fun r F2 h2 => ⟨hWk.st.far p2, hWk.ext.setp, hWk.rest, fun k g => hWk.new k (h2 k g)⟩
      have hbr : ∀ r, (W.setCell ⟨p, 0, none⟩ (.pointer r)).heap[p]? = some (.cells #[.pointer r, .int .i64 (del k l).length] 84 (0, 0)) := fun r => by
        have := heap_set (o := 0) (.pointer r) hWp
        simpa using this
      by_cases hz : h = 0
      · have hks := b3 hz
        rw [hks] at kk
        obtain ⟨rfl, _⟩ := kk.nil
        rw [hits, weave_nil] at hwv
        refine ⟨none, _, child_none hWk.st hq hks 0, hst none, rfl, M1, fun _ => False, hkr none _ (fun _ g => g.elim), ht.srt.del k, p2, .inl ⟨hwv, fun _ g => g, ?_⟩⟩
        have := hbr none
        rw [hwv] at this
        exact this
      · have hks := b4 hz
        obtain ⟨c1, hc1⟩ : ∃ c1, n.ks = [c1] := by
          match hh : n.ks with
          | [c1] => exact ⟨c1, rfl⟩
          | [] => rw [hh] at hks; simp at hks
          | _ :: _ :: _ => rw [hh] at hks; simp at hks; omega
        rw [hc1, show [c1] = [] ++ c1 :: [] from rfl] at kk
        obtain ⟨L1, lp, L2, F3, Fp, F4, rfl, k1, kp, k2, _, _, _, hFk⟩ := kk.at
        obtain ⟨rfl, _⟩ := k1.nil
        obtain ⟨rfl, _⟩ := k2.nil
        rw [hits] at hwv
        have hwv2 : del k l = lp := by rw [hwv]; simp [weave]
        obtain ⟨h', rfl⟩ : ∃ h', h = h' + 1 := ⟨h - 1, by omega⟩
        have hch := child_at (K1 := []) (K2 := []) (p := c1) hWk.st hq hc1
        refine ⟨some ⟨c1, 0, none⟩, _, hch, hst _, rfl, M1, Fp, hkr _ _ (fun x g => (hF x).2 (.inr ((hFk x).2 (.inr (.inl g))))), ht.srt.del k, p2, .inr ⟨h', c1, ?_, ?_, hbr _⟩⟩
        · have := kp.full
          exact fun e => by rw [← hwv2, e] at this; simp at this
        · rw [hwv2]
          exact kp.wide (by omega) (Nat.le_refl _)
end Go.Proofs.YtagamkahfiackaaGreatDoor
