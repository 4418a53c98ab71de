/- The walk of record.One; All records of bytes, plainly; rows of bytes in memory; the law's lists; The walk of record.Scan; Records one behind the other, plainly; rows of numbers, and three rows that grow beside one another. -/
import Derived.Test.YtjnhcanohefjiaaGreatDoorJRA
namespace Go.Proofs.YtjnhcanohefjiaaGreatDoor
open Go.RowKit Go.Sort

/-- Bytes that a call has made, anywhere in a block of its own. -/
def Pay (w : World) (base : Nat) (a : Option Addr) (ys : List Nat) : Prop :=
  BytesIn w a ys ∧ (ys ≠ [] → ∃ g o cur, a = some ⟨g, o, none⟩ ∧ base ≤ g ∧ w.heap[g]? = some (.cells cur 5 (0, 0)))
theorem pay_nil (w : World) (base : Nat) (a : Option Addr) : Pay w base a [] := ⟨bytesIn_nil _ _, fun h => absurd rfl h⟩
theorem Pay.on {w w' : World} {base : Nat} {a : Option Addr} {ys : List Nat} (h : Pay w base a ys) (hb : Below w.heap.size w w') : Pay w' base a ys :=
  ⟨h.1.on hb, fun h0 => by
    obtain ⟨g, o, cur, e, h1, h2⟩ := h.2 h0
    exact ⟨g, o, cur, e, h1, (hb.block g (blk_lt h2)).trans h2⟩⟩
theorem Pay.lower {w : World} {base base' : Nat} {a : Option Addr} {ys : List Nat} (h : Pay w base a ys) (hb : base' ≤ base) : Pay w base' a ys :=
  ⟨h.1, fun h0 => by
    obtain ⟨g, o, cur, e, h1, h2⟩ := h.2 h0
    exact ⟨g, o, cur, e, by omega, h2⟩⟩
theorem pay_of_own {w : World} {base g c : Nat} {xs : List Nat} (h : Own w base (.slice (some ⟨g, 0, none⟩) xs.length c) xs) (k : Nat) : Pay w base (some ⟨g, 0 + k, none⟩) (xs.drop k) := by
  refine ⟨h.cells.2.1.drop k, fun h0 => ?_⟩
  rcases h.2 with ⟨e, _⟩ | ⟨g', cap, cur, e, h1, h2, _⟩
  · cases e
  · simp only [Value.slice.injEq, Option.some.injEq, Addr.mk.injEq] at e
    obtain ⟨⟨rfl, _⟩, _⟩ := e
    exact ⟨g, _, cur, rfl, h1, h2⟩
/-- What One hands back. -/
def OneTold (w : World) (R : List Nat × Nat × Nat) (e : Ending) (w' : World) : Prop :=
  ∃ a c, e = .returned (.tuple #[.slice a R.1.length c, .int .i64 R.2.1, errV R.2.2]) ∧ Pay w' w.heap.size a R.1 ∧ (a = none → c = 0) ∧ R.1.length ≤ c ∧ Below w.heap.size w w'
set_option maxRecDepth 100000 in
set_option maxHeartbeats 2000000 in
theorem one_ (ep : Nat) (a : Option Addr) (xs : List Nat) (n c : Nat) (w : World) (h : BytesIn w a xs) (hx : ∀ x ∈ xs, x < 256) (hn : xs.length = n) (hlim : n ≤ 140737488355328) (hcap : n ≤ c) :
    Calls Tryz.prog 50 #[.int .u64 ep, .slice a n c] w (OneTold w (one ep xs)) := by
  have HH := Lib.hid (readHead_ a xs n c w h hx hn (by omega) hcap)
  have HHO := Lib.hid (hdR_ok xs hx)
  have HHE := Lib.hid (hdR_err xs)
  have HPA := Lib.hid (one_parts xs hx)
  have HOP : Hid (∀ W j, Below w.heap.size w W → j ≤ n → Calls Tryz.prog 75 #[.slice a j c] W (Opened W (opn (xs.take j)).1 (opn (xs.take j)).2)) := Lib.hid fun W j hW hj => by
    have hl2 : (xs.take j).length = j := by rw [List.length_take]; omega
    have := open_ a (xs.take j) c W (take_in (h.on hW) _) (fun x h => hx x (List.mem_of_mem_take h)) (by omega) (by omega)
    rw [hl2] at this
    exact this
  have e : one ep xs = if (hdR xs).2.2.2 ≠ 0 then ([], 0, (hdR xs).2.2.2) else if n < (hdR xs).2.2.1 + (hdR xs).1 + 4 then ([], 0, 12) else if (hdR xs).2.1 ≠ ep then ([], 0, 11)
      else if (opn (xs.take ((hdR xs).2.2.1 + (hdR xs).1 + 4))).2 ≠ 0 then ([], 0, (opn (xs.take ((hdR xs).2.2.1 + (hdR xs).1 + 4))).2)
      else ((opn (xs.take ((hdR xs).2.2.1 + (hdR xs).1 + 4))).1.drop (hdR xs).2.2.1, (hdR xs).2.2.1 + (hdR xs).1 + 4, 0) := by unfold one; rw [hn]
  rw [e]
  rw [hn] at HHO HPA
  clear e h hx
  generalize hdR xs = R at *
  obtain ⟨l, m, k, er⟩ := R
  simp only at HHO HHE HPA ⊢
  unfold Headed at HH
  simp only at HH
  have e0 : errV 0 = .nilIface := rfl
  by_cases c1 : er ≠ 0
  · rw [if_pos c1]
    obtain ⟨rfl, rfl, rfl⟩ := HHE.out c1
    unfold OneTold
    simp only [errV_not c1] at HH ⊢
    go_enter Tryz.func50, Tryz.ntmps50
    go_wp2_with fail
    refine HH.out.mono ?_
    rintro e w1 ⟨rfl, hb1⟩
    have HB1 := Lib.hid (below_step hb1 (below_alloc w1 (.cells #[.int .i64 0, .int .u64 0, .int .i64 0] 145)))
    clear hb1
    go_wp2_with fail
    go_ret3
    exact ⟨none, 0, rfl, pay_nil _ _ _, fun _ => rfl, Nat.le_refl _, HB1.out⟩
  · obtain rfl : er = 0 := by omega
    rw [if_neg (by simp)]
    rw [e0] at HH
    obtain ⟨hl0, hl1, hm1, _, hkn, hke⟩ := HHO.out rfl
    have hel := enc_lens l hl1
    have hem := enc_le10 m hm1
    have hk13 : k ≤ 13 := by omega
    clear c1 HHE HHO hke hel hem
    have hw1 : IntKind.i64.wrap ((k : Int) + l) = (k : Int) + l := by rw [IntKind.wrap_i64]; omega
    have hw2 : IntKind.i64.wrap ((k : Int) + l + 4) = (k : Int) + l + 4 := by rw [IntKind.wrap_i64]; omega
    by_cases c2 : n < k + l + 4
    · rw [if_pos c2]
      have hgt : (k : Int) + l + 4 > n := by omega
      have ev12 : errV 12 = .iface 68 (.int .i64 12) := rfl
      unfold OneTold
      simp only [ev12]
      go_enter Tryz.func50, Tryz.ntmps50
      go_wp2_with fail
      refine HH.out.mono ?_
      rintro e w1 ⟨rfl, hb1⟩
      have HB1 := Lib.hid (below_step hb1 (below_alloc w1 (.cells #[.int .i64 l, .int .u64 m, .int .i64 k] 145)))
      clear hb1
      go_wp2_with fail
      go_ret3
      exact ⟨none, 0, rfl, pay_nil _ _ _, fun _ => rfl, Nat.le_refl _, HB1.out⟩
    · rw [if_neg c2]
      have hgt : ¬ (k : Int) + l + 4 > n := by omega
      by_cases c3 : m ≠ ep
      · rw [if_pos c3]
        have hne : ((m : Int) == (ep : Int)) = false := by simp; omega
        have ev11 : errV 11 = .iface 68 (.int .i64 11) := rfl
        unfold OneTold
        simp only [ev11]
        go_enter Tryz.func50, Tryz.ntmps50
        go_wp2_with fail
        refine HH.out.mono ?_
        rintro e w1 ⟨rfl, hb1⟩
        have HB1 := Lib.hid (below_step hb1 (below_alloc w1 (.cells #[.int .i64 l, .int .u64 m, .int .i64 k] 145)))
        clear hb1
        go_wp2_with fail
        go_ret3
        exact ⟨none, 0, rfl, pay_nil _ _ _, fun _ => rfl, Nat.le_refl _, HB1.out⟩
      · obtain rfl : m = ep := by omega
        rw [if_neg (by simp)]
        clear c3
        obtain ⟨p, qs, _, hpl, _, _, _, hpo⟩ := HPA.out rfl (by omega)
        have HOl : Hid ((opn (xs.take (k + l + 4))).2 = 0 → (opn (xs.take (k + l + 4))).1.length = k + l) := Lib.hid fun hh => by
          rw [hpo] at hh ⊢
          split at hh
          · rename_i hr
            rw [if_pos hr]
            have h1 := congrArg List.length hr
            rw [recB_length, List.length_take, hpl, hn] at h1
            show (recH m p).length = _
            rw [recH_length, hpl]
            omega
          · cases hh
        have hb1' : (0 : Int) ≤ (k : Int) + l + 4 := by omega
        have hb2' : (k : Int) + l + 4 ≤ c := by omega
        have ht : ((k : Int) + l + 4).toNat = k + l + 4 := by omega
        clear hpo hpl HPA hn
        replace HOP : Hid (∀ W, Below w.heap.size w W → Calls Tryz.prog 75 #[.slice a (k + l + 4) c] W (Opened W (opn (xs.take (k + l + 4))).1 (opn (xs.take (k + l + 4))).2)) := Lib.hid fun W hW => HOP.out W _ hW (by omega)
        generalize opn (xs.take (k + l + 4)) = O at *
        obtain ⟨os, oe⟩ := O
        simp only at HOP HOl ⊢
        by_cases c4 : oe ≠ 0
        · rw [if_pos c4]
          replace HOP : Hid (∀ W, Below w.heap.size w W → Calls Tryz.prog 75 #[.slice a (k + l + 4) c] W fun e w' => ∃ a' c' ln, e = .returned (.tuple #[.slice a' ln c', .iface 68 (.int .i64 oe)]) ∧ Below W.heap.size W w') := Lib.hid fun W hW => (HOP.out W hW).mono fun e w' ⟨a', c', q1, _, _, _, q2⟩ => ⟨a', c', _, by rw [← errV_not c4]; exact q1, q2⟩
          unfold OneTold
          simp only [errV_not c4]
          go_enter Tryz.func50, Tryz.ntmps50
          go_wp2_with fail
          refine HH.out.mono ?_
          rintro e w1 ⟨rfl, hb1⟩
          have HB1 := Lib.hid (below_step hb1 (below_alloc w1 (.cells #[.int .i64 l, .int .u64 m, .int .i64 k] 145)))
          clear hb1
          go_wp2_with fail
          refine (HOP.out _ HB1.out).mono ?_
          rintro e w2 ⟨a2, c2, ln, rfl, hb2⟩
          have HB2 := Lib.hid (below_step HB1.out hb2)
          clear hb2
          go_wp2_with fail
          go_ret3
          exact ⟨none, 0, rfl, pay_nil _ _ _, fun _ => rfl, Nat.le_refl _, HB2.out⟩
        · obtain rfl : oe = 0 := by omega
          rw [if_neg (by simp)]
          have hol := HOl.out rfl
          replace HOP : Hid (∀ W, Below w.heap.size w W → Calls Tryz.prog 75 #[.slice a (k + l + 4) c] W fun e w' => ∃ g c', e = .returned (.tuple #[.slice (some ⟨g, 0, none⟩) (k + l) c', .nilIface]) ∧ Own w' W.heap.size (.slice (some ⟨g, 0, none⟩) os.length c') os ∧ k + l ≤ c' ∧ Below W.heap.size W w') := Lib.hid fun W hW => (HOP.out W hW).mono fun e w' ⟨a', c', q1, q2, _, _, q3⟩ => by
            obtain ⟨g, rfl⟩ := own_at q2 (by omega)
            exact ⟨g, c', by rw [← hol]; exact q1, q2, by rw [← hol]; exact own_cap q2, q3⟩
          have hdl : (os.drop k).length = l := by rw [List.length_drop, hol]; omega
          unfold OneTold
          simp only [hdl, Int.natCast_add, Int.cast_ofNat_Int]
          rw [e0]
          clear c4 hol HOl hdl
          go_enter Tryz.func50, Tryz.ntmps50
          go_wp2_with fail
          refine HH.out.mono ?_
          rintro e w1 ⟨rfl, hb1⟩
          have HB1 := Lib.hid (below_step hb1 (below_alloc w1 (.cells #[.int .i64 l, .int .u64 m, .int .i64 k] 145)))
          obtain ⟨V, hV⟩ : ∃ V, V = w1.alloc (.cells #[.int .i64 l, .int .u64 m, .int .i64 k] 145) := ⟨_, rfl⟩
          have hcell : V.cell? ⟨w1.heap.size, 2, none⟩ = some (.int .i64 k) := by rw [hV]; exact cell_of (World.alloc_heap_new' _ _) rfl
          have HCell := Lib.hid hcell
          have HV := Lib.hid hV
          clear hb1 hcell hV
          rw [← HV.out] at HB1
          go_wp2_with fail
          rw [← HV.out]
          refine (HOP.out _ HB1.out).mono ?_
          rintro e w2 ⟨g2, c2, rfl, hO2, hc2, hb2⟩
          have HB2 := Lib.hid (below_step HB1.out hb2)
          have HO2 := Lib.hid (hO2.lower HB1.out.size)
          have hcell2 := (hb2.cell (block_lt_of_cell HCell.out)).trans HCell.out
          have hck : ¬ c2 = k := by omega
          have hk1 : (k : Int) ≤ ((k + l : Nat) : Int) := by omega
          have hk2 : (k : Int) ≤ c2 := by omega
          have hk3 : (k : Int) ≤ (k : Int) + l := by omega
          have hsub : k + l - k = l := by omega
          clear hb2 hO2
          go_wp2_with fail
          go_ret3
          exact ⟨some ⟨g2, 0 + k, none⟩, c2 - k, by simp, pay_of_own HO2.out k, (fun q => by cases q), by omega, HB2.out⟩
end Go.Proofs.YtjnhcanohefjiaaGreatDoor

namespace Go.Proofs.YtjnhcanohefjiaaGreatDoor
open Go.RowKit Go.Sort Go.Maps

/-- All records that bytes begin with, and how many bytes they have, within so many rounds. -/
def scn (ep : Nat) : Nat → List Nat → List (List Nat) × Nat
  | 0, _ => ([], 0)
  | f + 1, xs => if (one ep xs).2.2 ≠ 0 then ([], 0) else ((one ep xs).1 :: (scn ep f (xs.drop (one ep xs).2.1)).1, (one ep xs).2.1 + (scn ep f (xs.drop (one ep xs).2.1)).2)
def scan (ep : Nat) (xs : List Nat) : List (List Nat) × Nat := scn ep (xs.length + 1) xs
theorem scn_fuel (ep : Nat) : ∀ (f g : Nat) (xs : List Nat), (∀ x ∈ xs, x < 256) → xs.length < f → xs.length < g → scn ep f xs = scn ep g xs
  | 0, _, _, _, h, _ => by omega
  | _ + 1, 0, _, _, _, h => by omega
  | f + 1, g + 1, xs, hb, hf, hg => by
    unfold scn
    by_cases h : (one ep xs).2.2 ≠ 0
    · rw [if_pos h, if_pos h]
    · have h0 : (one ep xs).2.2 = 0 := by simpa using h
      have h7 := one_pos ep xs hb h0
      have hl := (one_ok ep xs hb h0).2.1
      rw [if_neg h, if_neg h, scn_fuel ep f g (xs.drop (one ep xs).2.1) (fun x hx => hb x (List.mem_of_mem_drop hx)) (by rw [List.length_drop]; omega) (by rw [List.length_drop]; omega)]
theorem scan_stop (ep : Nat) (xs : List Nat) (h : (one ep xs).2.2 ≠ 0) : scan ep xs = ([], 0) := by
  unfold scan scn
  rw [if_pos h]
theorem scan_go (ep : Nat) (xs : List Nat) (hb : ∀ x ∈ xs, x < 256) (h : (one ep xs).2.2 = 0) : scan ep xs = ((one ep xs).1 :: (scan ep (xs.drop (one ep xs).2.1)).1, (one ep xs).2.1 + (scan ep (xs.drop (one ep xs).2.1)).2) := by
  have h7 := one_pos ep xs hb h
  have hl := (one_ok ep xs hb h).2.1
  have e := scn_fuel ep xs.length ((xs.drop (one ep xs).2.1).length + 1) (xs.drop (one ep xs).2.1) (fun x hx => hb x (List.mem_of_mem_drop hx)) (by rw [List.length_drop]; omega) (by omega)
  conv => lhs; unfold scan scn
  rw [if_neg (by simpa using h), e]
  rfl
theorem one_byte (ep : Nat) (xs : List Nat) (hb : ∀ x ∈ xs, x < 256) : ∀ x ∈ (one ep xs).1, x < 256 := by
  intro x hx
  by_cases h : (one ep xs).2.2 = 0
  · rw [(one_ok ep xs hb h).2.2.2.2.2.2] at hx
    exact hb x (List.mem_of_mem_drop (List.mem_of_mem_take hx))
  · rw [(one_err ep xs h).1] at hx
    simp at hx
/-- Rows of bytes in memory. -/
def ListIn (w : World) (la : Option Addr) (yss : List (List Nat)) : Prop := ∀ i, i < yss.length → ∃ b o, la = some ⟨b, o, none⟩ ∧ ∃ a c, w.cell? ⟨b, o + i, none⟩ = some (.slice a (yss.getD i []).length c) ∧ BytesIn w a (yss.getD i [])
theorem ListIn.on {w w' : World} {la : Option Addr} {yss : List (List Nat)} (h : ListIn w la yss) (hb : Below w.heap.size w w') : ListIn w' la yss := fun i hi => by
  obtain ⟨b, o, e, a, c, h1, h2⟩ := h i hi
  exact ⟨b, o, e, a, c, (hb.cell (block_lt_of_cell h1)).trans h1, h2.on hb⟩
theorem ListIn.take {w : World} {la : Option Addr} {yss : List (List Nat)} (h : ListIn w la yss) (k : Nat) : ListIn w la (yss.take k) := fun i hi => by
  rw [List.length_take] at hi
  obtain ⟨b, o, e, a, c, h1, h2⟩ := h i (by omega)
  have eg : (yss.take k).getD i [] = yss.getD i [] := by rw [List.getD_eq_getElem?_getD, List.getD_eq_getElem?_getD, List.getElem?_take, if_pos (by omega)]
  rw [eg]
  exact ⟨b, o, e, a, c, h1, h2⟩
theorem infoR : (Tryz.prog.info? 53).map (fun i => (i.zero, i.size, i.bytes)) = some (some (.slice none 0 0), 1, 24) := by kernel_rfl
/-- A row of slices that the call has made. -/
def OwnR (w : World) (base : Nat) (v : Value) (vs : List Value) : Prop := w.ownsRow base 53 1 v vs.length vs
theorem ownR_nil (w : World) (base : Nat) : OwnR w base (.slice none 0 0) [] := World.ownsRow_nil w base 53 1
/-- append(row, one slice), at the operation. -/
theorem wpList_append_row (w : World) {ops : Array Oper} {rest : List Oper} {o : Oper} {act : Act} {Q : Exit → Act → World → Prop} (hgd : o.guard = none) (s x : Operand)
    (ho : o.op = .call { callee := .builtin .append, args := #[s, x], argTypes := #[38, 38] }) (base : Nat) (v : Value) (vs : List Value) (u : Value) (hs : act.eval s = v) (hown : OwnR w base v vs)
    (g : Nat) (hx : act.eval x = .slice (some ⟨g, 0, none⟩) 1 1) (hc : w.cell? ⟨g, 0, none⟩ = some u) (hu : u.oneCell' = true) (hb : vs.length ≤ 10000000) (hbase : base ≤ w.heap.size)
    (hK : ∀ v' w', OwnR w' base v' (vs ++ [u]) → w.grownBy w' v.ownBlock → wpList Tryz.prog ops Q rest (act.put o.dst v') w') : wpList Tryz.prog ops Q (o :: rest) act w :=
  wpList_plain hgd fun _ hK' => by
    obtain ⟨i0, hi, hz0, hz1, hz2⟩ := info_parts infoR
    obtain ⟨v', w', hr, h2, h3, _⟩ := run_append_own_at (P := Tryz.prog) w base 38 o.type 53 i0 (.slice none 0 0) 1 24 Tryz.underlying38 hi hz0 hz1 hz2 rfl (by decide) v vs.length vs hown ⟨g, 0, none⟩ 1 1 [u] rfl (fun j u' hj => by
      match j, hj with
      | 0, hj => cases hj; rw [Addr.add_lit, Nat.add_zero]; exact hc) (fun y hy => by simp at hy; rw [hy]; exact hu) (by unfold maxLen; omega) (by omega) hbase
    unfold Oper.wp execOp
    simp only [ho, resolve, invoke, builtin, Sem.run_bind, Sem.run_pure, Result.andThen_ok, List.map_toArray, List.map_cons, List.map_nil, hs, hx, hr]
    refine hK' _ _ (hK v' w' ?_ h3)
    unfold OwnR
    rw [List.length_append]
    exact h2
/-- A slice of bytes that no row of slices from base on can hold. -/
def PayV (w : World) (base : Nat) (u : Value) (ys : List Nat) : Prop :=
  ∃ a c, u = .slice a ys.length c ∧ BytesIn w a ys ∧ (ys ≠ [] → ∃ g o, a = some ⟨g, o, none⟩ ∧ (g < base ∨ ∃ cur, w.heap[g]? = some (.cells cur 5 (0, 0))))
theorem PayV.on {w w' : World} {base : Nat} {u : Value} {ys : List Nat} (h : PayV w base u ys) (hb : Below w.heap.size w w') : PayV w' base u ys := by
  obtain ⟨a, c, e, h1, h2⟩ := h
  refine ⟨a, c, e, h1.on hb, fun h0 => ?_⟩
  obtain ⟨g, o, e', h3⟩ := h2 h0
  refine ⟨g, o, e', ?_⟩
  rcases h3 with h3 | ⟨cur, h3⟩
  · exact .inl h3
  · exact .inr ⟨cur, (hb.block g (blk_lt h3)).trans h3⟩
theorem PayV.cell {w : World} {base : Nat} {u : Value} {ys : List Nat} (h : PayV w base u ys) : u.oneCell' = true := by
  obtain ⟨a, c, rfl, _⟩ := h
  rfl
theorem payV_of_pay {w : World} {base base' c : Nat} {a : Option Addr} {ys : List Nat} (h : Pay w base a ys) : PayV w base' (.slice a ys.length c) ys :=
  ⟨a, c, rfl, h.1, fun h0 => by
    obtain ⟨g, o, cur, e, _, h1⟩ := h.2 h0
    exact ⟨g, o, e, .inr ⟨cur, h1⟩⟩⟩
theorem PayV.grown {w w' : World} {base : Nat} {u v : Value} {ys : List Nat} {vs : List Value} (h : PayV w base u ys) (hr : OwnR w base v vs) (hg : w.grownBy w' v.ownBlock) : PayV w' base u ys := by
  obtain ⟨a, c, e, h1, h2⟩ := h
  by_cases h0 : ys = []
  · subst h0
    exact ⟨a, c, e, bytesIn_nil _ _, fun q => absurd rfl q⟩
  · obtain ⟨g, o, e', h3⟩ := h2 h0
    have hne : some g ≠ v.ownBlock := fun q => by
      rcases hr.2 with ⟨e1, _⟩ | ⟨g', cap, cur', e1, g1, g2, _⟩
      · rw [e1] at q; cases q
      · rw [e1] at q
        simp only [Value.ownBlock, Option.some.injEq] at q
        subst q
        rcases h3 with h3 | ⟨cur, h3⟩
        · omega
        · rw [h3] at g2
          simp only [Option.some.injEq, Obj.cells.injEq] at g2
          exact absurd g2.2.1 (by decide)
    refine ⟨a, c, e, h1.far hg (fun b o' q => by rw [e'] at q; cases q; exact hne), fun _ => ⟨g, o, e', ?_⟩⟩
    rcases h3 with h3 | ⟨cur, h3⟩
    · exact .inl h3
    · exact .inr ⟨cur, (hg.block g (blk_lt h3) hne).trans h3⟩
/-- Slices of bytes in a row of one's own. -/
def LsP (w : World) (base : Nat) (v : Value) (yss : List (List Nat)) : Prop :=
  ∃ vs, OwnR w base v vs ∧ vs.length = yss.length ∧ ∀ i, i < yss.length → PayV w base (vs.getD i undef) (yss.getD i [])
theorem lsP_nil (w : World) (base : Nat) : LsP w base (.slice none 0 0) [] := ⟨[], ownR_nil w base, rfl, fun i hi => by simp at hi⟩
theorem OwnR.on {w w' : World} {base : Nat} {v : Value} {vs : List Value} (h : OwnR w base v vs) (hb : Below w.heap.size w w') : OwnR w' base v vs := by
  refine ⟨h.1, ?_⟩
  rcases h.2 with e | ⟨g, cap, cur, e, h1, h2, h3⟩
  · exact .inl e
  · exact .inr ⟨g, cap, cur, e, h1, (hb.block g (blk_lt h2)).trans h2, h3⟩
theorem LsP.on {w w' : World} {base : Nat} {v : Value} {yss : List (List Nat)} (h : LsP w base v yss) (hb : Below w.heap.size w w') : LsP w' base v yss := by
  obtain ⟨vs, h1, h2, h3⟩ := h
  exact ⟨vs, h1.on hb, h2, fun i hi => (h3 i hi).on hb⟩
theorem LsP.slice {w : World} {base : Nat} {v : Value} {yss : List (List Nat)} (h : LsP w base v yss) : ∃ la lc, v = .slice la yss.length lc ∧ ListIn w la yss ∧ yss.length ≤ lc := by
  obtain ⟨vs, h1, h2, h3⟩ := h
  rcases h1.2 with ⟨e, e0⟩ | ⟨g, cap, cur, e, g1, g2, g3, g4, g5, g6⟩
  · refine ⟨none, 0, ?_, fun i hi => ?_, by omega⟩
    · rw [e, ← h2, e0]
    · omega
  · refine ⟨some ⟨g, 0, none⟩, cap, by rw [e, h2], fun i hi => ⟨g, 0, rfl, ?_⟩, by omega⟩
    obtain ⟨a, c, ev, kb, _⟩ := h3 i hi
    refine ⟨a, c, ?_, kb⟩
    rw [Nat.zero_add]
    refine cell_of g2 ?_
    have hiv : i < vs.length := by omega
    have hget : vs[i]? = some (vs.getD i undef) := by rw [List.getD_eq_getElem?_getD, List.getElem?_eq_getElem hiv]; rfl
    rw [← ev, ← hget, ← g6, Nat.mul_one, List.getElem?_take_of_lt hiv]
    simp
/-- One more. -/
theorem LsP.snoc {w w' : World} {base : Nat} {v v' u : Value} {vs : List Value} {yss : List (List Nat)} {ys : List Nat} (hr : OwnR w base v vs) (hl : vs.length = yss.length) (h3 : ∀ i, i < yss.length → PayV w base (vs.getD i undef) (yss.getD i []))
    (hu : PayV w base u ys) (hr' : OwnR w' base v' (vs ++ [u])) (hg : w.grownBy w' v.ownBlock) : LsP w' base v' (yss ++ [ys]) := by
  refine ⟨vs ++ [u], hr', by simp [hl], fun i hi => ?_⟩
  rw [List.length_append, List.length_singleton] at hi
  rcases Nat.lt_or_ge i yss.length with h | h
  · have e1 : (vs ++ [u]).getD i undef = vs.getD i undef := by rw [List.getD_eq_getElem?_getD, List.getD_eq_getElem?_getD, List.getElem?_append_left (by omega)]
    have e2 : (yss ++ [ys]).getD i [] = yss.getD i [] := by rw [List.getD_eq_getElem?_getD, List.getD_eq_getElem?_getD, List.getElem?_append_left (by omega)]
    rw [e1, e2]
    exact (h3 i h).grown hr hg
  · obtain rfl : i = yss.length := by omega
    have e1 : (vs ++ [u]).getD yss.length undef = u := by rw [← hl]; simp
    have e2 : (yss ++ [ys]).getD yss.length [] = ys := by simp
    rw [e1, e2]
    exact hu.grown hr hg
theorem below_growR {w0 w w' : World} {v : Value} {vs : List Value} (hb : Below w0.heap.size w0 w) (hown : OwnR w w0.heap.size v vs) (hg : w.grownBy w' v.ownBlock) : Below w0.heap.size w0 w' :=
  hb.grown hg hb.size (fun k hk => (World.ownsRow.lt hown k hk).1)
set_option maxRecDepth 100000 in
set_option maxHeartbeats 1000000 in
/-- Two lists of the same bytes. -/
theorem lists_ (la lb : Option Addr) (yss : List (List Nat)) (n ca cb : Nat) (w : World) (hn : yss.length = n) (hlim : n ≤ 10000000) (ha : ListIn w la yss) (hb : ListIn w lb yss) :
    Calls Tryz.prog 11 #[.slice la n ca, .slice lb n cb] w fun e w' => e = .returned (.bool true) ∧ Below w.heap.size w w' := by
  have HA := Lib.hid ha
  have HB := Lib.hid hb
  have HN := Lib.hid hn
  clear ha hb hn
  go_enter Tryz.func11, Tryz.ntmps11
  go_wp2_with fail
  go_loopw [5] (fun iv wr => ∃ i : Nat, iv = .int .i64 i ∧ i ≤ n ∧ Hid (Below w.heap.size w wr)) (fun iv _ => ((n : Int) - intOf iv).toNat)
  case atStart => exact ⟨0, rfl, Nat.zero_le _, Lib.hid (Below.refl _ _)⟩
  case round =>
    obtain ⟨i, rfl, hi, hbw⟩ := hrel
    by_cases hin : i = n
    · have hge : decide (i < n) = false := decide_eq_false (by omega)
      clear hin
      go_wp2_with fail
      go_ret
      exact ⟨rfl, hbw.out⟩
    · have hlt : decide (i < n) = true := decide_eq_true (by omega)
      obtain ⟨b1, o1, rfl, a1, c1, h1, h1b⟩ := (HA.out.on hbw.out) i (by rw [HN.out]; omega)
      obtain ⟨b2, o2, rfl, a2, c2, h2, h2b⟩ := (HB.out.on hbw.out) i (by rw [HN.out]; omega)
      have hi0 : (0 : Int) ≤ (i : Int) := by omega
      have hi1 : (i : Int) < (n : Int) := by omega
      have cv1 : ∀ j, (convert 53 9 (.slice a1 (yss.getD i []).length c1)).run Tryz.prog (wr.drewN j) = .ok (.string (bs (yss.getD i []))) (wr.drewN j) := fun j => conv_ _ a1 _ c1 _ rfl (h1b.on (below_drewN (Below.refl _ _) j))
      have cv2 : ∀ j, (convert 53 9 (.slice a2 (yss.getD i []).length c2)).run Tryz.prog (wr.drewN j) = .ok (.string (bs (yss.getD i []))) (wr.drewN j) := fun j => conv_ _ a2 _ c2 _ rfl (h2b.on (below_drewN (Below.refl _ _) j))
      generalize (yss.getD i []).length = yl at *
      generalize bs (yss.getD i []) = sy at *
      clear h1b h2b hin
      go_wp2_with fail
      go_quiet (fail)
      have HB1 := Lib.hid (below_drewN hbw.out nq)
      generalize wr.drewN nq = W2 at *
      go_wp2_with fail
      go_roundw
      case rel => exact ⟨i + 1, by go_num, by omega, HB1⟩
      case measure => simp [intOf]; omega
end Go.Proofs.YtjnhcanohefjiaaGreatDoor

namespace Go.Proofs.YtjnhcanohefjiaaGreatDoor
open Go.RowKit Go.Sort Go.Maps

set_option maxRecDepth 100000 in
set_option maxHeartbeats 2000000 in
theorem scan_ (ep : Nat) (a : Option Addr) (xs : List Nat) (n c : Nat) (w : World) (h : BytesIn w a xs) (hx : ∀ x ∈ xs, x < 256) (hc : a = none → c = 0) (hn : xs.length = n) (hlim : n ≤ 33554432) (hcap : n ≤ c) :
    Calls Tryz.prog 25 #[.int .u64 ep, .slice a n c] w fun e w' => ∃ la lc, e = .returned (.tuple #[.slice la (scan ep xs).1.length lc, .int .i64 (scan ep xs).2]) ∧ ListIn w' la (scan ep xs).1 ∧ (scan ep xs).1.length ≤ lc ∧ (scan ep xs).1.length ≤ 10000000 ∧ Below w.heap.size w w' := by
  have HO : Hid (∀ W A cc i, Below w.heap.size w W → i ≤ n → (i < n → ∃ b o, a = some ⟨b, o, none⟩ ∧ A = some ⟨b, o + i, none⟩) → (A = none → cc = 0) → n - i ≤ cc → Calls Tryz.prog 50 #[.int .u64 ep, .slice A (n - i) cc] W fun e w' =>
      ∃ a' c', e = .returned (.tuple #[.slice a' (one ep (xs.drop i)).1.length c', .int .i64 (one ep (xs.drop i)).2.1, errV (one ep (xs.drop i)).2.2]) ∧ PayV w' w.heap.size (.slice a' (one ep (xs.drop i)).1.length c') (one ep (xs.drop i)).1 ∧ Below W.heap.size W w') := Lib.hid fun W A cc i hW hi hA hnil hcc => by
    have hin : BytesIn W A (xs.drop i) := by
      by_cases hin : i < n
      · obtain ⟨b, o, e1, e2⟩ := hA hin
        rw [e2]
        have h' := h.on hW
        rw [e1] at h'
        exact h'.drop i
      · rw [List.drop_eq_nil_of_le (by omega)]; exact bytesIn_nil _ _
    have hdl : (xs.drop i).length = n - i := by rw [List.length_drop, hn]
    refine (one_ ep A (xs.drop i) (n - i) cc W hin (fun x hm => hx x (List.mem_of_mem_drop hm)) hdl (by omega) hcc).mono fun e w' ⟨a', c', q1, q2, _, _, q3⟩ => ⟨a', c', q1, payV_of_pay q2, q3⟩
  have HG : Hid (∀ i, i ≤ n → (one ep (xs.drop i)).2.2 = 0 → scan ep (xs.drop i) = ((one ep (xs.drop i)).1 :: (scan ep (xs.drop (i + (one ep (xs.drop i)).2.1))).1, (one ep (xs.drop i)).2.1 + (scan ep (xs.drop (i + (one ep (xs.drop i)).2.1))).2) ∧ 7 ≤ (one ep (xs.drop i)).2.1 ∧ i + (one ep (xs.drop i)).2.1 ≤ n) := Lib.hid fun i hi h0 => by
    have hb : ∀ x ∈ xs.drop i, x < 256 := fun x hm => hx x (List.mem_of_mem_drop hm)
    have h1 := scan_go ep (xs.drop i) hb h0
    rw [List.drop_drop] at h1
    have h2 := (one_ok ep (xs.drop i) hb h0).2.1
    rw [List.length_drop, hn] at h2
    exact ⟨h1, one_pos ep (xs.drop i) hb h0, by omega⟩
  have HSt : Hid (∀ i, (one ep (xs.drop i)).2.2 ≠ 0 → scan ep (xs.drop i) = ([], 0)) := Lib.hid fun i h0 => scan_stop ep _ h0
  have HBn : Hid (∀ i, i < n → ∃ b o, a = some ⟨b, o, none⟩) := Lib.hid fun i hi => by
    obtain ⟨b, o, e, _⟩ := h 0 (by omega)
    exact ⟨b, o, e⟩
  obtain ⟨T, hT⟩ : ∃ T, T = scan ep xs := ⟨_, rfl⟩
  have HT : Hid (T = ([] ++ (scan ep (xs.drop 0)).1, 0 + (scan ep (xs.drop 0)).2)) := Lib.hid (by rw [hT, List.drop_zero, List.nil_append, Nat.zero_add])
  rw [← hT]
  have HC := Lib.hid hc
  clear hT h hx hc hn
  go_enter Tryz.func25, Tryz.ntmps25
  go_wp2_with fail
  go_loopw [6, 7] (fun pv iv wr => ∃ (i : Nat) (yss : List (List Nat)), iv = .int .i64 i ∧ i ≤ n ∧ Hid (7 * yss.length ≤ i) ∧ Hid (LsP wr w.heap.size pv yss) ∧ Hid (T = (yss ++ (scan ep (xs.drop i)).1, i + (scan ep (xs.drop i)).2)) ∧ Hid (Below w.heap.size w wr)) (fun _ iv _ => ((n : Int) - intOf iv).toNat)
  case atStart => exact ⟨0, [], rfl, Nat.zero_le _, Lib.hid (Nat.le_refl _), Lib.hid (lsP_nil _ _), HT, Lib.hid (Below.refl _ _)⟩
  case round =>
    obtain ⟨i, yss, rfl, hi, hlen, hls, ht, hb⟩ := hrel
    have HOi : Hid (∀ A cc, (i < n → ∃ b o, a = some ⟨b, o, none⟩ ∧ A = some ⟨b, o + i, none⟩) → (A = none → cc = 0) → n - i ≤ cc → Calls Tryz.prog 50 #[.int .u64 ep, .slice A (n - i) cc] wr fun e w' =>
      ∃ a' c', e = .returned (.tuple #[.slice a' (one ep (xs.drop i)).1.length c', .int .i64 (one ep (xs.drop i)).2.1, errV (one ep (xs.drop i)).2.2]) ∧ PayV w' w.heap.size (.slice a' (one ep (xs.drop i)).1.length c') (one ep (xs.drop i)).1 ∧ Below wr.heap.size wr w') := Lib.hid fun A cc => HO.out wr A cc i hb.out hi
    have HGi := Lib.hid (HG.out i hi)
    have HSi := Lib.hid (HSt.out i)
    obtain ⟨vs, hr, hl, hpay⟩ := hls.out
    obtain ⟨la, lc, rfl, hli, hlc⟩ := hls.out.slice
    have HR := Lib.hid hr
    have HL := Lib.hid hl
    have HP := Lib.hid hpay
    have HLI := Lib.hid hli
    have HLC := Lib.hid hlc
    clear hr hl hpay hli hlc
    generalize one ep (xs.drop i) = R at *
    obtain ⟨ps, s, er⟩ := R
    simp only at HOi HGi HSi
    have hin0 : (0 : Int) ≤ (i : Int) := by omega
    have hic : (i : Int) ≤ (c : Int) := by omega
    have hin : (i : Int) ≤ (n : Int) := by omega
    obtain ⟨pl, hpl⟩ : ∃ pl, ps.length = pl := ⟨_, rfl⟩
    have HPL := Lib.hid hpl
    rw [hpl] at HOi
    clear hpl
    obtain ⟨yl, hyl⟩ : ∃ yl, yss.length = yl := ⟨_, rfl⟩
    have HYL := Lib.hid hyl
    rw [hyl] at hlen HLC ⊢
    rw [hyl] at HR
    clear hyl
    have fin : ∀ W2, Below w.heap.size w W2 → Below wr.heap.size wr W2 → er ≠ 0 → (∃ la' lc', Ending.returned (.tuple #[.slice la yl lc, .int .i64 (i : Int)]) = .returned (.tuple #[.slice la' T.1.length lc', .int .i64 T.2]) ∧ ListIn W2 la' T.1 ∧ T.1.length ≤ lc' ∧ T.1.length ≤ 10000000 ∧ Below w.heap.size w W2) := fun W2 h1 h2 h3 => by
      have hT := ht.out
      rw [HSi.out h3, List.append_nil, Nat.add_zero] at hT
      rw [hT]
      have := hlen.out
      have := HLC.out
      refine ⟨la, lc, by rw [HYL.out], HLI.out.on h2, by show yss.length ≤ lc; rw [HYL.out]; omega, by show yss.length ≤ _; rw [HYL.out]; omega, h1⟩
    have FIN := Lib.hid fin
    clear fin
    by_cases hcE : er ≠ 0
    · simp only [errV_not hcE] at HOi
      by_cases hlt : i < n
      · obtain ⟨b, o, rfl⟩ := HBn.out i hlt
        have hci : ¬ c = i := by omega
        go_wp2_with fail
        refine (HOi.out _ _ (fun _ => ⟨b, o, rfl, rfl⟩) (fun q => by cases q) (by omega)).mono ?_
        rintro e w1 ⟨a1, c1, rfl, _, hb1⟩
        have HB1 := Lib.hid hb1
        have HB2 := Lib.hid (below_step hb.out hb1)
        clear hb1
        go_wp2_with fail
        go_ret2
        exact FIN.out w1 HB2.out HB1.out hcE
      · have HOz : Hid (∀ A cc, (A = none → cc = 0) → Calls Tryz.prog 50 #[.int .u64 ep, .slice A 0 cc] wr fun e w' => ∃ a' c', e = .returned (.tuple #[.slice a' pl c', .int .i64 s, .iface 68 (.int .i64 er)]) ∧ Below wr.heap.size wr w') := Lib.hid fun A cc hz => by
          have := HOi.out A cc (fun q => absurd q hlt) hz (by omega)
          rw [show n - i = 0 by omega] at this
          exact this.mono fun e w' ⟨a', c', q1, _, q3⟩ => ⟨a', c', q1, q3⟩
        clear HOi HO
        obtain rfl : i = n := by omega
        cases a with
        | none =>
          have hc0 := HC.out rfl
          subst hc0
          obtain rfl : i = 0 := by omega
          go_wp2_with fail
          refine (HOz.out _ _ (fun _ => rfl)).mono ?_
          rintro e w1 ⟨a1, c1, rfl, hb1⟩
          have HB1 := Lib.hid hb1
          have HB2 := Lib.hid (below_step hb.out hb1)
          clear hb1
          go_wp2_with fail
          go_ret2
          exact FIN.out w1 HB2.out HB1.out hcE
        | some ad =>
          go_wp2_with fail
          all_goals
            refine (HOz.out _ _ (fun q => by cases q)).mono ?_
            rintro e w1 ⟨a1, c1, rfl, hb1⟩
            have HB1 := Lib.hid hb1
            have HB2 := Lib.hid (below_step hb.out hb1)
            clear hb1
            go_wp2_with fail
            go_ret2
            exact FIN.out w1 HB2.out HB1.out hcE
    · obtain rfl : er = 0 := by omega
      obtain ⟨hg1, hg2, hg3⟩ := HGi.out rfl
      have HT2 : Hid (T = ((yss ++ [ps]) ++ (scan ep (xs.drop (i + s))).1, (i + s) + (scan ep (xs.drop (i + s))).2)) := Lib.hid (by rw [ht.out, hg1]; simp [Nat.add_assoc])
      have e0 : errV 0 = .nilIface := rfl
      rw [e0] at HOi
      clear hcE hg1 FIN HSi HGi HT
      have hlt : i < n := by omega
      obtain ⟨b, o, rfl⟩ := HBn.out i hlt
      have hci : ¬ c = i := by omega
      go_wp2_with fail
      refine (HOi.out _ _ (fun _ => ⟨b, o, rfl, rfl⟩) (fun q => by cases q) (by omega)).mono ?_
      rintro e w1 ⟨a1, c1, rfl, hp1, hb1⟩
      have HP1 : Hid (PayV w1 w.heap.size (.slice a1 pl c1) ps) := Lib.hid hp1
      have HB1 := Lib.hid hb1
      have HB2 := Lib.hid (below_step hb.out hb1)
      have HR1 : Hid (OwnR w1 w.heap.size (.slice la yl lc) vs) := Lib.hid (HR.out.on hb1)
      have hs1 := HB2.out.size
      have hvl : vs.length ≤ 10000000 := by have := hlen.out; rw [HL.out, HYL.out]; omega
      have HW : Hid (Below w.heap.size w (w1.alloc (.cells #[.slice a1 pl c1] 53))) := Lib.hid (HB2.out.alloc hs1 _)
      have HRW : Hid (OwnR (w1.alloc (.cells #[.slice a1 pl c1] 53)) w.heap.size (.slice la yl lc) vs) := Lib.hid (HR1.out.on (below_alloc _ _))
      have HPW : Hid (∀ j, j < yss.length → PayV (w1.alloc (.cells #[.slice a1 pl c1] 53)) w.heap.size (vs.getD j undef) (yss.getD j [])) := Lib.hid fun j hj => (HP.out j hj).on (below_step HB1.out (below_alloc _ _))
      have HPs : Hid (PayV (w1.alloc (.cells #[.slice a1 pl c1] 53)) w.heap.size (.slice a1 pl c1) ps) := Lib.hid (HP1.out.on (below_alloc _ _))
      clear hp1 hb1
      go_wp2_with (first
        | (at_builtin; refine wpList_append_row _ rfl _ _ rfl w.heap.size _ vs (.slice a1 pl c1) rfl HRW.out w1.heap.size rfl (cell_of (World.alloc_heap_new' _ _) rfl) rfl hvl HW.out.size ?_
           intro v2 w2 hown hgrow
           have HLs := Lib.hid (LsP.snoc HRW.out HL.out HPW.out HPs.out hown hgrow)
           have HB3 := Lib.hid (below_growR HW.out HRW.out hgrow)
           clear hown hgrow)
        | fail)
      go_roundw
      case rel => exact ⟨i + s, yss ++ [ps], by go_num, by omega, Lib.hid (by rw [List.length_append, HYL.out, List.length_singleton]; have := hlen.out; omega), HLs, HT2, HB3⟩
      case measure => simp [intOf]; omega
end Go.Proofs.YtjnhcanohefjiaaGreatDoor

namespace Go.Proofs.YtjnhcanohefjiaaGreatDoor
open Go.RowKit Go.Sort Go.Maps

/-- A payload that may be. -/
def OkP (p : List Nat) : Prop := p ≠ [] ∧ p.length ≤ 1048576 ∧ ∀ x ∈ p, x < 256
/-- Payloads framed one behind the other. -/
def allB (ep : Nat) (pss : List (List Nat)) : List Nat := (pss.map (recB ep)).flatten
theorem allB_nil (ep : Nat) : allB ep [] = [] := rfl
theorem allB_cons (ep : Nat) (p : List Nat) (pss : List (List Nat)) : allB ep (p :: pss) = recB ep p ++ allB ep pss := by simp [allB]
theorem allB_append (ep : Nat) (pss qss : List (List Nat)) : allB ep (pss ++ qss) = allB ep pss ++ allB ep qss := by simp [allB]
theorem allB_one (ep : Nat) (p : List Nat) : allB ep [p] = recB ep p := by simp [allB]
theorem allB_byte (ep : Nat) : ∀ pss : List (List Nat), (∀ p ∈ pss, OkP p) → ∀ x ∈ allB ep pss, x < 256
  | [], _, x, hx => by simp [allB] at hx
  | p :: pss, h, x, hx => by
    rw [allB_cons] at hx
    rcases List.mem_append.1 hx with hx | hx
    · exact recB_byte ep p (h p (List.mem_cons_self ..)).2.2 x hx
    · exact allB_byte ep pss (fun q hq => h q (List.mem_cons_of_mem _ hq)) x hx
/-- All of them are read as they were, whatever stands behind that is no record. -/
theorem scan_all (ep : Nat) (he : ep < 18446744073709551616) (ys : List Nat) (hy : ∀ x ∈ ys, x < 256) (hs : (one ep ys).2.2 ≠ 0) : ∀ pss : List (List Nat), (∀ p ∈ pss, OkP p) → scan ep (allB ep pss ++ ys) = (pss, (allB ep pss).length)
  | [], _ => by rw [allB_nil, List.nil_append, scan_stop ep ys hs]; rfl
  | p :: pss, h => by
    have hp := h p (List.mem_cons_self ..)
    have ih := scan_all ep he ys hy hs pss (fun q hq => h q (List.mem_cons_of_mem _ hq))
    have hb : ∀ x ∈ allB ep (p :: pss) ++ ys, x < 256 := fun x hx => by
      rcases List.mem_append.1 hx with hx | hx
      · exact allB_byte ep _ h x hx
      · exact hy x hx
    have e : allB ep (p :: pss) ++ ys = recB ep p ++ (allB ep pss ++ ys) := by rw [allB_cons, List.append_assoc]
    have h1 := one_rec ep p (allB ep pss ++ ys) he hp.1 hp.2.1
    rw [← e] at h1
    rw [scan_go ep _ hb (by rw [h1]), h1]
    simp only
    rw [e, List.drop_left, ih, allB_cons, List.length_append]
theorem one_nil (ep : Nat) : one ep [] = ([], 0, 8) := rfl
/-- Where each record ends. -/
def endsL (ep : Nat) (pss : List (List Nat)) : List Nat := (List.range pss.length).map fun i => (allB ep (pss.take (i + 1))).length
theorem endsL_length (ep : Nat) (pss : List (List Nat)) : (endsL ep pss).length = pss.length := by simp [endsL]
theorem endsL_get (ep : Nat) (pss : List (List Nat)) (i : Nat) (hi : i < pss.length) : (endsL ep pss).getD i 0 = (allB ep (pss.take (i + 1))).length := by
  simp [endsL, List.getD_eq_getElem?_getD, hi]
theorem endsL_snoc (ep : Nat) (pss : List (List Nat)) (p : List Nat) : endsL ep (pss ++ [p]) = endsL ep pss ++ [(allB ep (pss ++ [p])).length] := by
  unfold endsL
  rw [List.length_append, List.length_singleton, List.range_succ, List.map_append]
  congr 1
  · refine List.map_congr_left fun i hi => ?_
    have hi' := List.mem_range.1 hi
    rw [List.take_append_of_le_length (by omega)]
  · rw [List.map_singleton, List.take_of_length_le (by simp)]
/-- Numbers as values; a row of numbers that the call has made. -/
def valsI (es : List Nat) : List Value := es.map fun (x : Nat) => .int .i64 (x : Int)
def OwnI (w : World) (base : Nat) (v : Value) (es : List Nat) : Prop := w.ownsRow base 3 1 v es.length (valsI es)
theorem infoI : (Tryz.prog.info? 3).map (fun i => (i.zero, i.size, i.bytes)) = some (some (.int .i64 0), 1, 8) := by kernel_rfl
theorem ownI_nil (w : World) (base : Nat) : OwnI w base (.slice none 0 0) [] := World.ownsRow_nil w base 3 1
theorem wpList_append_int (w : World) {ops : Array Oper} {rest : List Oper} {o : Oper} {act : Act} {Q : Exit → Act → World → Prop} (hgd : o.guard = none) (s x : Operand)
    (ho : o.op = .call { callee := .builtin .append, args := #[s, x], argTypes := #[41, 41] }) (base : Nat) (v : Value) (es : List Nat) (u : Nat) (hs : act.eval s = v) (hown : OwnI w base v es)
    (g : Nat) (hx : act.eval x = .slice (some ⟨g, 0, none⟩) 1 1) (hc : w.cell? ⟨g, 0, none⟩ = some (.int .i64 (u : Int))) (hb : es.length ≤ 10000000) (hbase : base ≤ w.heap.size)
    (hK : ∀ v' w', OwnI w' base v' (es ++ [u]) → w.grownBy w' v.ownBlock → wpList Tryz.prog ops Q rest (act.put o.dst v') w') : wpList Tryz.prog ops Q (o :: rest) act w :=
  wpList_plain hgd fun _ hK' => by
    obtain ⟨i0, hi, hz0, hz1, hz2⟩ := info_parts infoI
    obtain ⟨v', w', hr, h2, h3, _⟩ := run_append_own_at (P := Tryz.prog) w base 41 o.type 3 i0 (.int .i64 0) 1 8 Tryz.underlying41 hi hz0 hz1 hz2 rfl (by decide) v es.length (valsI es) hown ⟨g, 0, none⟩ 1 1 [.int .i64 (u : Int)] rfl (fun j u' hj => by
      match j, hj with
      | 0, hj => cases hj; rw [Addr.add_lit, Nat.add_zero]; exact hc) (fun y hy => by simp at hy; rw [hy]; rfl) (by unfold maxLen; omega) (by omega) hbase
    unfold Oper.wp execOp
    simp only [ho, resolve, invoke, builtin, Sem.run_bind, Sem.run_pure, Result.andThen_ok, List.map_toArray, List.map_cons, List.map_nil, hs, hx, hr]
    refine hK' _ _ (hK v' w' ?_ h3)
    unfold OwnI valsI
    rw [List.length_append, List.map_append]
    exact h2
theorem OwnI.on {w w' : World} {base : Nat} {v : Value} {es : List Nat} (h : OwnI w base v es) (hb : Below w.heap.size w w') : OwnI w' base v es := by
  refine ⟨h.1, ?_⟩
  rcases h.2 with e | ⟨g, cap, cur, e, h1, h2, h3⟩
  · exact .inl e
  · exact .inr ⟨g, cap, cur, e, h1, (hb.block g (blk_lt h2)).trans h2, h3⟩
theorem OwnI.slice {w : World} {base : Nat} {v : Value} {es : List Nat} (h : OwnI w base v es) : ∃ a c, v = .slice a es.length c ∧ ∀ i, i < es.length → ∃ b o, a = some ⟨b, o, none⟩ ∧ w.cell? ⟨b, o + i, none⟩ = some (.int .i64 (es.getD i 0 : Nat)) := by
  rcases h.2 with ⟨e, e0⟩ | ⟨g, cap, cur, e, g1, g2, g3, g4, g5, g6⟩
  · refine ⟨none, 0, by rw [e, e0], fun i hi => by omega⟩
  · refine ⟨some ⟨g, 0, none⟩, cap, e, fun i hi => ⟨g, 0, rfl, ?_⟩⟩
    rw [Nat.zero_add]
    refine cell_of g2 ?_
    have hl : (valsI es).length = es.length := by simp [valsI]
    have hget : (valsI es)[i]? = some (.int .i64 (es.getD i 0 : Nat)) := by simp [valsI, List.getElem?_map, List.getElem?_eq_getElem hi, List.getD_eq_getElem?_getD]
    rw [← hget, ← g6, Nat.mul_one, List.getElem?_take_of_lt hi]
    simp
theorem below_growI {w0 w w' : World} {v : Value} {es : List Nat} (hb : Below w0.heap.size w0 w) (hown : OwnI w w0.heap.size v es) (hg : w.grownBy w' v.ownBlock) : Below w0.heap.size w0 w' :=
  hb.grown hg hb.size (fun k hk => (World.ownsRow.lt hown k hk).1)
end Go.Proofs.YtjnhcanohefjiaaGreatDoor
