/- All records of bytes, plainly; rows of bytes in memory; the law's lists. -/
import Derived.Test.YtjnhcanohefjiaaGreatDoorRcOne
namespace Go.Proofs.YtjnhcanohefjiaaGreatDoor
open Go.RowKit Go.Sort Go.Maps

/-- All records that bytes begin with, and how many bytes they have, within so many rounds. -/
def scn (ep : Nat) : Nat → List Nat → List (List Nat) × Nat
  | 0, _ => ([], 0)
  | f + 1, xs => if (one ep xs).2.2 ≠ 0 then ([], 0) else ((one ep xs).1 :: (scn ep f (xs.drop (one ep xs).2.1)).1, (one ep xs).2.1 + (scn ep f (xs.drop (one ep xs).2.1)).2)
def scan (ep : Nat) (xs : List Nat) : List (List Nat) × Nat := scn ep (xs.length + 1) xs
theorem scn_fuel (ep : Nat) : ∀ (f g : Nat) (xs : List Nat), (∀ x ∈ xs, x < 256) → xs.length < f → xs.length < g → scn ep f xs = scn ep g xs
  | 0, _, _, _, h, _ => by omega
  | _ + 1, 0, _, _, _, h => by omega
  | f + 1, g + 1, xs, hb, hf, hg => by
    unfold scn
    by_cases h : (one ep xs).2.2 ≠ 0
    · rw [if_pos h, if_pos h]
    · have h0 : (one ep xs).2.2 = 0 := by simpa using h
      have h7 := one_pos ep xs hb h0
      have hl := (one_ok ep xs hb h0).2.1
      rw [if_neg h, if_neg h, scn_fuel ep f g (xs.drop (one ep xs).2.1) (fun x hx => hb x (List.mem_of_mem_drop hx)) (by rw [List.length_drop]; omega) (by rw [List.length_drop]; omega)]
theorem scan_stop (ep : Nat) (xs : List Nat) (h : (one ep xs).2.2 ≠ 0) : scan ep xs = ([], 0) := by
  unfold scan scn
  rw [if_pos h]
theorem scan_go (ep : Nat) (xs : List Nat) (hb : ∀ x ∈ xs, x < 256) (h : (one ep xs).2.2 = 0) : scan ep xs = ((one ep xs).1 :: (scan ep (xs.drop (one ep xs).2.1)).1, (one ep xs).2.1 + (scan ep (xs.drop (one ep xs).2.1)).2) := by
  have h7 := one_pos ep xs hb h
  have hl := (one_ok ep xs hb h).2.1
  have e := scn_fuel ep xs.length ((xs.drop (one ep xs).2.1).length + 1) (xs.drop (one ep xs).2.1) (fun x hx => hb x (List.mem_of_mem_drop hx)) (by rw [List.length_drop]; omega) (by omega)
  conv => lhs; unfold scan scn
  rw [if_neg (by simpa using h), e]
  rfl
theorem one_byte (ep : Nat) (xs : List Nat) (hb : ∀ x ∈ xs, x < 256) : ∀ x ∈ (one ep xs).1, x < 256 := by
  intro x hx
  by_cases h : (one ep xs).2.2 = 0
  · rw [(one_ok ep xs hb h).2.2.2.2.2.2] at hx
    exact hb x (List.mem_of_mem_drop (List.mem_of_mem_take hx))
  · rw [(one_err ep xs h).1] at hx
    simp at hx
/-- Rows of bytes in memory. -/
def ListIn (w : World) (la : Option Addr) (yss : List (List Nat)) : Prop := ∀ i, i < yss.length → ∃ b o, la = some ⟨b, o, none⟩ ∧ ∃ a c, w.cell? ⟨b, o + i, none⟩ = some (.slice a (yss.getD i []).length c) ∧ BytesIn w a (yss.getD i [])
theorem ListIn.on {w w' : World} {la : Option Addr} {yss : List (List Nat)} (h : ListIn w la yss) (hb : Below w.heap.size w w') : ListIn w' la yss := fun i hi => by
  obtain ⟨b, o, e, a, c, h1, h2⟩ := h i hi
  exact ⟨b, o, e, a, c, (hb.cell (block_lt_of_cell h1)).trans h1, h2.on hb⟩
theorem ListIn.take {w : World} {la : Option Addr} {yss : List (List Nat)} (h : ListIn w la yss) (k : Nat) : ListIn w la (yss.take k) := fun i hi => by
  rw [List.length_take] at hi
  obtain ⟨b, o, e, a, c, h1, h2⟩ := h i (by omega)
  have eg : (yss.take k).getD i [] = yss.getD i [] := by rw [List.getD_eq_getElem?_getD, List.getD_eq_getElem?_getD, List.getElem?_take, if_pos (by omega)]
  rw [eg]
  exact ⟨b, o, e, a, c, h1, h2⟩
theorem infoR : (Tryz.prog.info? 53).map (fun i => (i.zero, i.size, i.bytes)) = some (some (.slice none 0 0), 1, 24) := by kernel_rfl
/-- A row of slices that the call has made. -/
def OwnR (w : World) (base : Nat) (v : Value) (vs : List Value) : Prop := w.ownsRow base 53 1 v vs.length vs
theorem ownR_nil (w : World) (base : Nat) : OwnR w base (.slice none 0 0) [] := World.ownsRow_nil w base 53 1
/-- append(row, one slice), at the operation. -/
theorem wpList_append_row (w : World) {ops : Array Oper} {rest : List Oper} {o : Oper} {act : Act} {Q : Exit → Act → World → Prop} (hgd : o.guard = none) (s x : Operand)
    (ho : o.op = .call { callee := .builtin .append, args := #[s, x], argTypes := #[38, 38] }) (base : Nat) (v : Value) (vs : List Value) (u : Value) (hs : act.eval s = v) (hown : OwnR w base v vs)
    (g : Nat) (hx : act.eval x = .slice (some ⟨g, 0, none⟩) 1 1) (hc : w.cell? ⟨g, 0, none⟩ = some u) (hu : u.oneCell' = true) (hb : vs.length ≤ 10000000) (hbase : base ≤ w.heap.size)
    (hK : ∀ v' w', OwnR w' base v' (vs ++ [u]) → w.grownBy w' v.ownBlock → wpList Tryz.prog ops Q rest (act.put o.dst v') w') : wpList Tryz.prog ops Q (o :: rest) act w :=
  wpList_plain hgd fun _ hK' => by
    obtain ⟨i0, hi, hz0, hz1, hz2⟩ := info_parts infoR
    obtain ⟨v', w', hr, h2, h3, _⟩ := run_append_own_at (P := Tryz.prog) w base 38 o.type 53 i0 (.slice none 0 0) 1 24 Tryz.underlying38 hi hz0 hz1 hz2 rfl (by decide) v vs.length vs hown ⟨g, 0, none⟩ 1 1 [u] rfl (fun j u' hj => by
      match j, hj with
      | 0, hj => cases hj; rw [Addr.add_lit, Nat.add_zero]; exact hc) (fun y hy => by simp at hy; rw [hy]; exact hu) (by unfold maxLen; omega) (by omega) hbase
    unfold Oper.wp execOp
    simp only [ho, resolve, invoke, builtin, Sem.run_bind, Sem.run_pure, Result.andThen_ok, List.map_toArray, List.map_cons, List.map_nil, hs, hx, hr]
    refine hK' _ _ (hK v' w' ?_ h3)
    unfold OwnR
    rw [List.length_append]
    exact h2
/-- A slice of bytes that no row of slices from base on can hold. -/
def PayV (w : World) (base : Nat) (u : Value) (ys : List Nat) : Prop :=
  ∃ a c, u = .slice a ys.length c ∧ BytesIn w a ys ∧ (ys ≠ [] → ∃ g o, a = some ⟨g, o, none⟩ ∧ (g < base ∨ ∃ cur, w.heap[g]? = some (.cells cur 5 (0, 0))))
theorem PayV.on {w w' : World} {base : Nat} {u : Value} {ys : List Nat} (h : PayV w base u ys) (hb : Below w.heap.size w w') : PayV w' base u ys := by
  obtain ⟨a, c, e, h1, h2⟩ := h
  refine ⟨a, c, e, h1.on hb, fun h0 => ?_⟩
  obtain ⟨g, o, e', h3⟩ := h2 h0
  refine ⟨g, o, e', ?_⟩
  rcases h3 with h3 | ⟨cur, h3⟩
  · exact .inl h3
  · exact .inr ⟨cur, (hb.block g (blk_lt h3)).trans h3⟩
theorem PayV.cell {w : World} {base : Nat} {u : Value} {ys : List Nat} (h : PayV w base u ys) : u.oneCell' = true := by
  obtain ⟨a, c, rfl, _⟩ := h
  rfl
theorem payV_of_pay {w : World} {base base' c : Nat} {a : Option Addr} {ys : List Nat} (h : Pay w base a ys) : PayV w base' (.slice a ys.length c) ys :=
  ⟨a, c, rfl, h.1, fun h0 => by
    obtain ⟨g, o, cur, e, _, h1⟩ := h.2 h0
    exact ⟨g, o, e, .inr ⟨cur, h1⟩⟩⟩
theorem PayV.grown {w w' : World} {base : Nat} {u v : Value} {ys : List Nat} {vs : List Value} (h : PayV w base u ys) (hr : OwnR w base v vs) (hg : w.grownBy w' v.ownBlock) : PayV w' base u ys := by
  obtain ⟨a, c, e, h1, h2⟩ := h
  by_cases h0 : ys = []
  · subst h0
    exact ⟨a, c, e, bytesIn_nil _ _, fun q => absurd rfl q⟩
  · obtain ⟨g, o, e', h3⟩ := h2 h0
    have hne : some g ≠ v.ownBlock := fun q => by
      rcases hr.2 with ⟨e1, _⟩ | ⟨g', cap, cur', e1, g1, g2, _⟩
      · rw [e1] at q; cases q
      · rw [e1] at q
        simp only [Value.ownBlock, Option.some.injEq] at q
        subst q
        rcases h3 with h3 | ⟨cur, h3⟩
        · omega
        · rw [h3] at g2
          simp only [Option.some.injEq, Obj.cells.injEq] at g2
          exact absurd g2.2.1 (by decide)
    refine ⟨a, c, e, h1.far hg (fun b o' q => by rw [e'] at q; cases q; exact hne), fun _ => ⟨g, o, e', ?_⟩⟩
    rcases h3 with h3 | ⟨cur, h3⟩
    · exact .inl h3
    · exact .inr ⟨cur, (hg.block g (blk_lt h3) hne).trans h3⟩
/-- Slices of bytes in a row of one's own. -/
def LsP (w : World) (base : Nat) (v : Value) (yss : List (List Nat)) : Prop :=
  ∃ vs, OwnR w base v vs ∧ vs.length = yss.length ∧ ∀ i, i < yss.length → PayV w base (vs.getD i undef) (yss.getD i [])
theorem lsP_nil (w : World) (base : Nat) : LsP w base (.slice none 0 0) [] := ⟨[], ownR_nil w base, rfl, fun i hi => by simp at hi⟩
theorem OwnR.on {w w' : World} {base : Nat} {v : Value} {vs : List Value} (h : OwnR w base v vs) (hb : Below w.heap.size w w') : OwnR w' base v vs := by
  refine ⟨h.1, ?_⟩
  rcases h.2 with e | ⟨g, cap, cur, e, h1, h2, h3⟩
  · exact .inl e
  · exact .inr ⟨g, cap, cur, e, h1, (hb.block g (blk_lt h2)).trans h2, h3⟩
theorem LsP.on {w w' : World} {base : Nat} {v : Value} {yss : List (List Nat)} (h : LsP w base v yss) (hb : Below w.heap.size w w') : LsP w' base v yss := by
  obtain ⟨vs, h1, h2, h3⟩ := h
  exact ⟨vs, h1.on hb, h2, fun i hi => (h3 i hi).on hb⟩
theorem LsP.slice {w : World} {base : Nat} {v : Value} {yss : List (List Nat)} (h : LsP w base v yss) : ∃ la lc, v = .slice la yss.length lc ∧ ListIn w la yss ∧ yss.length ≤ lc := by
  obtain ⟨vs, h1, h2, h3⟩ := h
  rcases h1.2 with ⟨e, e0⟩ | ⟨g, cap, cur, e, g1, g2, g3, g4, g5, g6⟩
  · refine ⟨none, 0, ?_, fun i hi => ?_, by omega⟩
    · rw [e, ← h2, e0]
    · omega
  · refine ⟨some ⟨g, 0, none⟩, cap, by rw [e, h2], fun i hi => ⟨g, 0, rfl, ?_⟩, by omega⟩
    obtain ⟨a, c, ev, kb, _⟩ := h3 i hi
    refine ⟨a, c, ?_, kb⟩
    rw [Nat.zero_add]
    refine cell_of g2 ?_
    have hiv : i < vs.length := by omega
    have hget : vs[i]? = some (vs.getD i undef) := by rw [List.getD_eq_getElem?_getD, List.getElem?_eq_getElem hiv]; rfl
    rw [← ev, ← hget, ← g6, Nat.mul_one, List.getElem?_take_of_lt hiv]
    simp
/-- One more. -/
theorem LsP.snoc {w w' : World} {base : Nat} {v v' u : Value} {vs : List Value} {yss : List (List Nat)} {ys : List Nat} (hr : OwnR w base v vs) (hl : vs.length = yss.length) (h3 : ∀ i, i < yss.length → PayV w base (vs.getD i undef) (yss.getD i []))
    (hu : PayV w base u ys) (hr' : OwnR w' base v' (vs ++ [u])) (hg : w.grownBy w' v.ownBlock) : LsP w' base v' (yss ++ [ys]) := by
  refine ⟨vs ++ [u], hr', by simp [hl], fun i hi => ?_⟩
  rw [List.length_append, List.length_singleton] at hi
  rcases Nat.lt_or_ge i yss.length with h | h
  · have e1 : (vs ++ [u]).getD i undef = vs.getD i undef := by rw [List.getD_eq_getElem?_getD, List.getD_eq_getElem?_getD, List.getElem?_append_left (by omega)]
    have e2 : (yss ++ [ys]).getD i [] = yss.getD i [] := by rw [List.getD_eq_getElem?_getD, List.getD_eq_getElem?_getD, List.getElem?_append_left (by omega)]
    rw [e1, e2]
    exact (h3 i h).grown hr hg
  · obtain rfl : i = yss.length := by omega
    have e1 : (vs ++ [u]).getD yss.length undef = u := by rw [← hl]; simp
    have e2 : (yss ++ [ys]).getD yss.length [] = ys := by simp
    rw [e1, e2]
    exact hu.grown hr hg
theorem below_growR {w0 w w' : World} {v : Value} {vs : List Value} (hb : Below w0.heap.size w0 w) (hown : OwnR w w0.heap.size v vs) (hg : w.grownBy w' v.ownBlock) : Below w0.heap.size w0 w' :=
  hb.grown hg hb.size (fun k hk => (World.ownsRow.lt hown k hk).1)
set_option maxRecDepth 100000 in
set_option maxHeartbeats 1000000 in
/-- Two lists of the same bytes. -/
theorem lists_ (la lb : Option Addr) (yss : List (List Nat)) (n ca cb : Nat) (w : World) (hn : yss.length = n) (hlim : n ≤ 10000000) (ha : ListIn w la yss) (hb : ListIn w lb yss) :
    Calls Tryz.prog 11 #[.slice la n ca, .slice lb n cb] w fun e w' => e = .returned (.bool true) ∧ Below w.heap.size w w' := by
  have HA := Lib.hid ha
  have HB := Lib.hid hb
  have HN := Lib.hid hn
  clear ha hb hn
  go_enter Tryz.func11, Tryz.ntmps11
  go_wp2_with fail
  go_loopw [5] (fun iv wr => ∃ i : Nat, iv = .int .i64 i ∧ i ≤ n ∧ Hid (Below w.heap.size w wr)) (fun iv _ => ((n : Int) - intOf iv).toNat)
  case atStart => exact ⟨0, rfl, Nat.zero_le _, Lib.hid (Below.refl _ _)⟩
  case round =>
    obtain ⟨i, rfl, hi, hbw⟩ := hrel
    by_cases hin : i = n
    · have hge : decide (i < n) = false := decide_eq_false (by omega)
      clear hin
      go_wp2_with fail
      go_ret
      exact ⟨rfl, hbw.out⟩
    · have hlt : decide (i < n) = true := decide_eq_true (by omega)
      obtain ⟨b1, o1, rfl, a1, c1, h1, h1b⟩ := (HA.out.on hbw.out) i (by rw [HN.out]; omega)
      obtain ⟨b2, o2, rfl, a2, c2, h2, h2b⟩ := (HB.out.on hbw.out) i (by rw [HN.out]; omega)
      have hi0 : (0 : Int) ≤ (i : Int) := by omega
      have hi1 : (i : Int) < (n : Int) := by omega
      have cv1 : ∀ j, (convert 53 9 (.slice a1 (yss.getD i []).length c1)).run Tryz.prog (wr.drewN j) = .ok (.string (bs (yss.getD i []))) (wr.drewN j) := fun j => conv_ _ a1 _ c1 _ rfl (h1b.on (below_drewN (Below.refl _ _) j))
      have cv2 : ∀ j, (convert 53 9 (.slice a2 (yss.getD i []).length c2)).run Tryz.prog (wr.drewN j) = .ok (.string (bs (yss.getD i []))) (wr.drewN j) := fun j => conv_ _ a2 _ c2 _ rfl (h2b.on (below_drewN (Below.refl _ _) j))
      generalize (yss.getD i []).length = yl at *
      generalize bs (yss.getD i []) = sy at *
      clear h1b h2b hin
      go_wp2_with fail
      go_quiet (fail)
      have HB1 := Lib.hid (below_drewN hbw.out nq)
      generalize wr.drewN nq = W2 at *
      go_wp2_with fail
      go_roundw
      case rel => exact ⟨i + 1, by go_num, by omega, HB1⟩
      case measure => simp [intOf]; omega
end Go.Proofs.YtjnhcanohefjiaaGreatDoor
