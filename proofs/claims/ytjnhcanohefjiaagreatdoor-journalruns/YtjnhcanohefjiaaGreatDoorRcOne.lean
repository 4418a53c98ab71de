/- The walk of record.One. -/
import Derived.Test.YtjnhcanohefjiaaGreatDoorRcHead
namespace Go.Proofs.YtjnhcanohefjiaaGreatDoor
open Go.RowKit Go.Sort

/-- Bytes that a call has made, anywhere in a block of its own. -/
def Pay (w : World) (base : Nat) (a : Option Addr) (ys : List Nat) : Prop :=
  BytesIn w a ys ∧ (ys ≠ [] → ∃ g o cur, a = some ⟨g, o, none⟩ ∧ base ≤ g ∧ w.heap[g]? = some (.cells cur 5 (0, 0)))
theorem pay_nil (w : World) (base : Nat) (a : Option Addr) : Pay w base a [] := ⟨bytesIn_nil _ _, fun h => absurd rfl h⟩
theorem Pay.on {w w' : World} {base : Nat} {a : Option Addr} {ys : List Nat} (h : Pay w base a ys) (hb : Below w.heap.size w w') : Pay w' base a ys :=
  ⟨h.1.on hb, fun h0 => by
    obtain ⟨g, o, cur, e, h1, h2⟩ := h.2 h0
    exact ⟨g, o, cur, e, h1, (hb.block g (blk_lt h2)).trans h2⟩⟩
theorem Pay.lower {w : World} {base base' : Nat} {a : Option Addr} {ys : List Nat} (h : Pay w base a ys) (hb : base' ≤ base) : Pay w base' a ys :=
  ⟨h.1, fun h0 => by
    obtain ⟨g, o, cur, e, h1, h2⟩ := h.2 h0
    exact ⟨g, o, cur, e, by omega, h2⟩⟩
theorem pay_of_own {w : World} {base g c : Nat} {xs : List Nat} (h : Own w base (.slice (some ⟨g, 0, none⟩) xs.length c) xs) (k : Nat) : Pay w base (some ⟨g, 0 + k, none⟩) (xs.drop k) := by
  refine ⟨h.cells.2.1.drop k, fun h0 => ?_⟩
  rcases h.2 with ⟨e, _⟩ | ⟨g', cap, cur, e, h1, h2, _⟩
  · cases e
  · simp only [Value.slice.injEq, Option.some.injEq, Addr.mk.injEq] at e
    obtain ⟨⟨rfl, _⟩, _⟩ := e
    exact ⟨g, _, cur, rfl, h1, h2⟩
/-- What One hands back. -/
def OneTold (w : World) (R : List Nat × Nat × Nat) (e : Ending) (w' : World) : Prop :=
  ∃ a c, e = .returned (.tuple #[.slice a R.1.length c, .int .i64 R.2.1, errV R.2.2]) ∧ Pay w' w.heap.size a R.1 ∧ (a = none → c = 0) ∧ R.1.length ≤ c ∧ Below w.heap.size w w'
theorem oneTold_nil {w w' : World} {n : Nat} (hb : Below w.heap.size w w') : OneTold w ([], 0, n) (.returned (.tuple #[.slice none 0 0, .int .i64 0, errV n])) w' :=
  ⟨none, 0, rfl, pay_nil _ _ _, fun _ => rfl, Nat.le_refl _, hb⟩
set_option maxRecDepth 100000 in
set_option maxHeartbeats 2000000 in
theorem one_ (ep : Nat) (a : Option Addr) (xs : List Nat) (n c : Nat) (w : World) (h : BytesIn w a xs) (hx : ∀ x ∈ xs, x < 256) (hn : xs.length = n) (hlim : n ≤ 140737488355328) (hcap : n ≤ c) :
    Calls Tryz.prog 50 #[.int .u64 ep, .slice a n c] w (OneTold w (one ep xs)) := by
  have HH := Lib.hid (readHead_ a xs n c w h hx hn (by omega) hcap)
  have HHO := Lib.hid (hdR_ok xs hx)
  have HHE := Lib.hid (hdR_err xs)
  have HPA := Lib.hid (one_parts xs hx)
  have HOP : Hid (∀ W j, Below w.heap.size w W → j ≤ n → Calls Tryz.prog 75 #[.slice a j c] W (Opened W (opn (xs.take j)).1 (opn (xs.take j)).2)) := Lib.hid fun W j hW hj => by
    have hl2 : (xs.take j).length = j := by rw [List.length_take]; omega
    have := open_ a (xs.take j) c W (take_in (h.on hW) _) (fun x h => hx x (List.mem_of_mem_take h)) (by omega) (by omega)
    rw [hl2] at this
    exact this
  have e : one ep xs = if (hdR xs).2.2.2 ≠ 0 then ([], 0, (hdR xs).2.2.2) else if n < (hdR xs).2.2.1 + (hdR xs).1 + 4 then ([], 0, 12) else if (hdR xs).2.1 ≠ ep then ([], 0, 11)
      else if (opn (xs.take ((hdR xs).2.2.1 + (hdR xs).1 + 4))).2 ≠ 0 then ([], 0, (opn (xs.take ((hdR xs).2.2.1 + (hdR xs).1 + 4))).2)
      else ((opn (xs.take ((hdR xs).2.2.1 + (hdR xs).1 + 4))).1.drop (hdR xs).2.2.1, (hdR xs).2.2.1 + (hdR xs).1 + 4, 0) := by unfold one; rw [hn]
  rw [e]
  rw [hn] at HHO HPA
  clear e h hx
  generalize hdR xs = R at *
  obtain ⟨l, m, k, er⟩ := R
  simp only at HHO HHE HPA ⊢
  unfold Headed at HH
  simp only at HH
  have e0 : errV 0 = .nilIface := rfl
  by_cases c1 : er ≠ 0
  · rw [if_pos c1]
    obtain ⟨rfl, rfl, rfl⟩ := HHE.out c1
    unfold OneTold
    simp only [errV_not c1] at HH ⊢
    go_enter Tryz.func50, Tryz.ntmps50
    go_wp2_with fail
    refine HH.out.mono ?_
    rintro e w1 ⟨rfl, hb1⟩
    have HB1 := Lib.hid (below_step hb1 (below_alloc w1 (.cells #[.int .i64 0, .int .u64 0, .int .i64 0] 145)))
    clear hb1
    go_wp2_with fail
    go_ret3
    exact ⟨none, 0, rfl, pay_nil _ _ _, fun _ => rfl, Nat.le_refl _, HB1.out⟩
  · obtain rfl : er = 0 := by omega
    rw [if_neg (by simp)]
    rw [e0] at HH
    obtain ⟨hl0, hl1, hm1, _, hkn, hke⟩ := HHO.out rfl
    have hel := enc_lens l hl1
    have hem := enc_le10 m hm1
    have hk13 : k ≤ 13 := by omega
    clear c1 HHE HHO hke hel hem
    have hw1 : IntKind.i64.wrap ((k : Int) + l) = (k : Int) + l := by rw [IntKind.wrap_i64]; omega
    have hw2 : IntKind.i64.wrap ((k : Int) + l + 4) = (k : Int) + l + 4 := by rw [IntKind.wrap_i64]; omega
    by_cases c2 : n < k + l + 4
    · rw [if_pos c2]
      have hgt : (k : Int) + l + 4 > n := by omega
      have ev12 : errV 12 = .iface 68 (.int .i64 12) := rfl
      unfold OneTold
      simp only [ev12]
      go_enter Tryz.func50, Tryz.ntmps50
      go_wp2_with fail
      refine HH.out.mono ?_
      rintro e w1 ⟨rfl, hb1⟩
      have HB1 := Lib.hid (below_step hb1 (below_alloc w1 (.cells #[.int .i64 l, .int .u64 m, .int .i64 k] 145)))
      clear hb1
      go_wp2_with fail
      go_ret3
      exact ⟨none, 0, rfl, pay_nil _ _ _, fun _ => rfl, Nat.le_refl _, HB1.out⟩
    · rw [if_neg c2]
      have hgt : ¬ (k : Int) + l + 4 > n := by omega
      by_cases c3 : m ≠ ep
      · rw [if_pos c3]
        have hne : ((m : Int) == (ep : Int)) = false := by simp; omega
        have ev11 : errV 11 = .iface 68 (.int .i64 11) := rfl
        unfold OneTold
        simp only [ev11]
        go_enter Tryz.func50, Tryz.ntmps50
        go_wp2_with fail
        refine HH.out.mono ?_
        rintro e w1 ⟨rfl, hb1⟩
        have HB1 := Lib.hid (below_step hb1 (below_alloc w1 (.cells #[.int .i64 l, .int .u64 m, .int .i64 k] 145)))
        clear hb1
        go_wp2_with fail
        go_ret3
        exact ⟨none, 0, rfl, pay_nil _ _ _, fun _ => rfl, Nat.le_refl _, HB1.out⟩
      · obtain rfl : m = ep := by omega
        rw [if_neg (by simp)]
        clear c3
        obtain ⟨p, qs, _, hpl, _, _, _, hpo⟩ := HPA.out rfl (by omega)
        have HOl : Hid ((opn (xs.take (k + l + 4))).2 = 0 → (opn (xs.take (k + l + 4))).1.length = k + l) := Lib.hid fun hh => by
          rw [hpo] at hh ⊢
          split at hh
          · rename_i hr
            rw [if_pos hr]
            have h1 := congrArg List.length hr
            rw [recB_length, List.length_take, hpl, hn] at h1
            show (recH m p).length = _
            rw [recH_length, hpl]
            omega
          · cases hh
        have hb1' : (0 : Int) ≤ (k : Int) + l + 4 := by omega
        have hb2' : (k : Int) + l + 4 ≤ c := by omega
        have ht : ((k : Int) + l + 4).toNat = k + l + 4 := by omega
        clear hpo hpl HPA hn
        replace HOP : Hid (∀ W, Below w.heap.size w W → Calls Tryz.prog 75 #[.slice a (k + l + 4) c] W (Opened W (opn (xs.take (k + l + 4))).1 (opn (xs.take (k + l + 4))).2)) := Lib.hid fun W hW => HOP.out W _ hW (by omega)
        generalize opn (xs.take (k + l + 4)) = O at *
        obtain ⟨os, oe⟩ := O
        simp only at HOP HOl ⊢
        by_cases c4 : oe ≠ 0
        · rw [if_pos c4]
          replace HOP : Hid (∀ W, Below w.heap.size w W → Calls Tryz.prog 75 #[.slice a (k + l + 4) c] W fun e w' => ∃ a' c' ln, e = .returned (.tuple #[.slice a' ln c', .iface 68 (.int .i64 oe)]) ∧ Below W.heap.size W w') := Lib.hid fun W hW => (HOP.out W hW).mono fun e w' ⟨a', c', q1, _, _, _, q2⟩ => ⟨a', c', _, by rw [← errV_not c4]; exact q1, q2⟩
          unfold OneTold
          simp only [errV_not c4]
          go_enter Tryz.func50, Tryz.ntmps50
          go_wp2_with fail
          refine HH.out.mono ?_
          rintro e w1 ⟨rfl, hb1⟩
          have HB1 := Lib.hid (below_step hb1 (below_alloc w1 (.cells #[.int .i64 l, .int .u64 m, .int .i64 k] 145)))
          clear hb1
          go_wp2_with fail
          refine (HOP.out _ HB1.out).mono ?_
          rintro e w2 ⟨a2, c2, ln, rfl, hb2⟩
          have HB2 := Lib.hid (below_step HB1.out hb2)
          clear hb2
          go_wp2_with fail
          go_ret3
          exact ⟨none, 0, rfl, pay_nil _ _ _, fun _ => rfl, Nat.le_refl _, HB2.out⟩
        · obtain rfl : oe = 0 := by omega
          rw [if_neg (by simp)]
          have hol := HOl.out rfl
          replace HOP : Hid (∀ W, Below w.heap.size w W → Calls Tryz.prog 75 #[.slice a (k + l + 4) c] W fun e w' => ∃ g c', e = .returned (.tuple #[.slice (some ⟨g, 0, none⟩) (k + l) c', .nilIface]) ∧ Own w' W.heap.size (.slice (some ⟨g, 0, none⟩) os.length c') os ∧ k + l ≤ c' ∧ Below W.heap.size W w') := Lib.hid fun W hW => (HOP.out W hW).mono fun e w' ⟨a', c', q1, q2, _, _, q3⟩ => by
            obtain ⟨g, rfl⟩ := own_at q2 (by omega)
            exact ⟨g, c', by rw [← hol]; exact q1, q2, by rw [← hol]; exact own_cap q2, q3⟩
          have hdl : (os.drop k).length = l := by rw [List.length_drop, hol]; omega
          unfold OneTold
          simp only [hdl, Int.natCast_add, Int.cast_ofNat_Int]
          rw [e0]
          clear c4 hol HOl hdl
          go_enter Tryz.func50, Tryz.ntmps50
          go_wp2_with fail
          refine HH.out.mono ?_
          rintro e w1 ⟨rfl, hb1⟩
          have HB1 := Lib.hid (below_step hb1 (below_alloc w1 (.cells #[.int .i64 l, .int .u64 m, .int .i64 k] 145)))
          obtain ⟨V, hV⟩ : ∃ V, V = w1.alloc (.cells #[.int .i64 l, .int .u64 m, .int .i64 k] 145) := ⟨_, rfl⟩
          have hcell : V.cell? ⟨w1.heap.size, 2, none⟩ = some (.int .i64 k) := by rw [hV]; exact cell_of (World.alloc_heap_new' _ _) rfl
          have HCell := Lib.hid hcell
          have HV := Lib.hid hV
          clear hb1 hcell hV
          rw [← HV.out] at HB1
          go_wp2_with fail
          rw [← HV.out]
          refine (HOP.out _ HB1.out).mono ?_
          rintro e w2 ⟨g2, c2, rfl, hO2, hc2, hb2⟩
          have HB2 := Lib.hid (below_step HB1.out hb2)
          have HO2 := Lib.hid (hO2.lower HB1.out.size)
          have hcell2 := (hb2.cell (block_lt_of_cell HCell.out)).trans HCell.out
          have hck : ¬ c2 = k := by omega
          have hk1 : (k : Int) ≤ ((k + l : Nat) : Int) := by omega
          have hk2 : (k : Int) ≤ c2 := by omega
          have hk3 : (k : Int) ≤ (k : Int) + l := by omega
          have hsub : k + l - k = l := by omega
          clear hb2 hO2
          go_wp2_with fail
          go_ret3
          exact ⟨some ⟨g2, 0 + k, none⟩, c2 - k, by simp, pay_of_own HO2.out k, (fun q => by cases q), by omega, HB2.out⟩
end Go.Proofs.YtjnhcanohefjiaaGreatDoor
