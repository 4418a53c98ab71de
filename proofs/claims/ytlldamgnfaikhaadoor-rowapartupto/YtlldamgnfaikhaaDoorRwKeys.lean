/- The walk of row.Keys; numbers in a row of one's own. -/
import Derived.Test.YtlldamgnfaikhaaDoorRwMem
namespace Go.Proofs.YtlldamgnfaikhaaDoor
open Go.RowKit Go.Sort

def intVals (ps : List Nat) : List Value := ps.map fun (p : Nat) => .int .i64 (p : Int)
theorem intVals_len (ps : List Nat) : (intVals ps).length = ps.length := by simp [intVals]
theorem intVals_append (a b : List Nat) : intVals a ++ intVals b = intVals (a ++ b) := by simp [intVals]
theorem intVals_one (ps : List Nat) : ∀ u ∈ intVals ps, u.oneCell' = true := by
  intro u hu
  obtain ⟨x, _, rfl⟩ := List.mem_map.1 hu
  rfl
theorem intVals_get (ps : List Nat) (i : Nat) (h : i < ps.length) : (intVals ps)[i]? = some (.int .i64 (ps.getD i 0 : Nat)) := by
  simp [intVals, List.getElem?_map, List.getElem?_eq_getElem h, List.getD_eq_getElem?_getD]
/-- A row of numbers that the call has made. -/
def OwnP (w : World) (base : Nat) (v : Value) (ps : List Nat) : Prop := w.ownsRow base 3 1 v ps.length (intVals ps)
/-- Numbers behind a slice. -/
def IntsAt (w : World) (a : Option Addr) (ps : List Nat) : Prop :=
  ∀ i, i < ps.length → ∃ b o, a = some ⟨b, o, none⟩ ∧ w.cell? ⟨b, o + i, none⟩ = some (.int .i64 (ps.getD i 0 : Nat))
theorem IntsAt.on {w w' : World} {a : Option Addr} {ps : List Nat} (h : IntsAt w a ps) (hb : Below w.heap.size w w') : IntsAt w' a ps := by
  intro i hi
  obtain ⟨b, o, e, h1⟩ := h i hi
  exact ⟨b, o, e, (hb.cell (block_lt_of_cell h1)).trans h1⟩
theorem OwnP.ints {w : World} {base : Nat} {v : Value} {ps : List Nat} (h : OwnP w base v ps) : ∃ a c, v = .slice a ps.length c ∧ IntsAt w a ps ∧ (a = none → c = 0) := by
  rcases h.2 with ⟨rfl, e⟩ | ⟨g, cap, cur, rfl, _, _, _, _, _, _⟩
  · have : ps = [] := List.eq_nil_of_length_eq_zero e
    subst this
    exact ⟨none, 0, rfl, fun i hi => by simp at hi, fun _ => rfl⟩
  · refine ⟨_, _, rfl, fun i hi => ⟨g, 0, rfl, ?_⟩, fun hh => by cases hh⟩
    have := World.ownsRow.cellAt h i (by omega)
    rw [Nat.zero_add, this, intVals_get ps i hi]
theorem OwnP.on {w w' : World} {base : Nat} {v : Value} {xs : List Nat} (h : OwnP w base v xs) (hb : Below w.heap.size w w') : OwnP w' base v xs := by
  refine ⟨h.1, ?_⟩
  rcases h.2 with h1 | ⟨g, cap, cur, e, h1, h2, h3, h4, h5, h6⟩
  · exact .inl h1
  · have hlt : g < w.heap.size := by
      rcases Nat.lt_or_ge g w.heap.size with hl | hl
      · exact hl
      · rw [Array.getElem?_eq_none hl] at h2; cases h2
    exact .inr ⟨g, cap, cur, e, h1, (hb.block g hlt).trans h2, h3, h4, h5, h6⟩
theorem ownP_nil (w : World) (base : Nat) : OwnP w base (.slice none 0 0) [] := World.ownsRow_nil w base 3 1
theorem infoI : (Tryd.prog.info? 3).map (fun i => (i.zero, i.size, i.bytes)) = some (some (.int .i64 0), 1, 8) := by kernel_rfl
theorem ownP_join {w : World} {base n m : Nat} {v : Value} {xs ys : List Nat} (hn : xs.length = n) (hm : ys.length = m) (h : w.ownsRow base 3 1 v (n + m) (intVals xs ++ intVals ys)) : OwnP w base v (xs ++ ys) := by
  subst hn hm
  unfold OwnP
  rw [← intVals_append, List.length_append]
  exact h
theorem below_growP {N : Nat} {w0 w w' : World} {v : Value} {es : List Nat} (hN : N ≤ w0.heap.size) (hb : Below N w0 w) (hown : OwnP w N v es) (hg : w.grownBy w' v.ownBlock) : Below N w0 w' :=
  hb.grown hg (Nat.le_trans hN hb.size) (fun k hk => (World.ownsRow.lt hown k hk).1)
/-- append(row, number). -/
theorem wpList_append_place (N : Nat) (w w0 : World) {ops : Array Oper} {rest : List Oper} {o : Oper} {act : Act} {Q : Exit → Act → World → Prop} (hgd : o.guard = none) (s x : Operand)
    (ho : o.op = .call { callee := .builtin .append, args := #[s, x], argTypes := #[64, 64] }) (v : Value) (es : List Nat) (hs : act.eval s = v) (hown : OwnP w N v es)
    (B p : Nat) (hx : act.eval x = .slice (some ⟨B, 0, none⟩) 1 1) (hin : w.cell? ⟨B, 0, none⟩ = some (.int .i64 (p : Int))) (hlen : (es.length + 1) * 8 ≤ 140737488355328) (hN : N ≤ w0.heap.size) (hb : Below N w0 w)
    (hK : ∀ v' w', OwnP w' N v' (es ++ [p]) → Below N w0 w' → wpList Tryd.prog ops Q rest (act.put o.dst v') w') : wpList Tryd.prog ops Q (o :: rest) act w := by
  obtain ⟨i0, hi, hz0, hz1, hz2⟩ := info_parts infoI
  have hnews : ∀ j u, (intVals [p])[j]? = some u → w.cell? ((⟨B, 0, none⟩ : Addr).add j) = some u := by
    intro j u hj
    cases j with
    | zero => simp [intVals] at hj; subst hj; rw [Addr.add_lit]; exact hin
    | succ j => simp [intVals] at hj
  refine wpList_append_own w hgd s x 64 ho N 3 i0 (.int .i64 0) 1 8 Tryd.underlying64 hi hz0 hz1 hz2 rfl (by decide) v es.length (intVals es) hs hown ⟨B, 0, none⟩ 1 1 (intVals [p]) hx (by simp [intVals]) hnews (intVals_one _) (by unfold maxLen; omega) (by omega) (Nat.le_trans hN hb.size) ?_
  intro v' w' h1 h2 _
  exact hK v' w' (ownP_join rfl rfl h1) (below_growP hN hb hown h2)
set_option maxRecDepth 100000 in
set_option maxHeartbeats 1000000 in
theorem keys_ (nm : ByteArray) (at_ : Option Addr) (ct : Nat) (cs : List Col) (w : World) (hc : ColsIn w at_ cs) (hcl : cs.length ≤ 1048576) :
    Calls Tryd.prog 25 #[.agg #[.string nm, .slice at_ cs.length ct]] w fun e w' => ∃ v, e = .returned v ∧ OwnP w' w.heap.size v (keyI cs) ∧ Below w.heap.size w w' := by
  obtain ⟨C, hC⟩ : ∃ C, cs.length = C := ⟨_, rfl⟩
  have HC := Lib.hid hC
  have HJ := Lib.hid hc
  rw [hC] at hcl
  rw [hC]
  have HK : Hid (keyI cs = keyT cs C) := by show _ = _; rw [keyI, hC]
  clear hc hC
  obtain ⟨t0, t1⟩ := inT_new w nm at_ C ct 24
  have HB0 : Hid (Below w.heap.size w (w.alloc (.cells #[.string nm, .slice at_ C ct] 24))) := below_alloc1 _ _
  go_enter Tryd.func25, Tryd.ntmps25
  go_wp2_with fail
  generalize w.alloc (.cells #[.string nm, .slice at_ C ct] 24) = V at *
  go_loopw [3, 9] (fun ov iv wr => ∃ i : Nat, i ≤ C ∧ iv = .int .i64 i ∧ Hid (OwnP wr w.heap.size ov (keyT cs i)) ∧ Hid (Below w.heap.size w wr)) (fun _ iv _ => C - (intOf iv).toNat)
  case atStart => exact ⟨0, Nat.zero_le _, rfl, ownP_nil _ _, HB0⟩
  case round =>
    clear HB0
    obtain ⟨i, hi, rfl, HO, HBx⟩ := hrel
    by_cases hlt : i < C
    · have hlt2 : (i : Int) < (C : Int) := by omega
      have hi1 : i < cs.length := by rw [HC.out]; exact hlt
      obtain ⟨b1, o1, rfl, cn, kc, ky, nl, hci, hcin⟩ := ColsIn.get (HJ.out.on HBx.out) i hi1
      obtain ⟨q0, q1, q2, q3⟩ := hcin
      have hKs := keyT_succ cs i
      have hky : isKey cs i = ky := by rw [isKey_at hi1, hci]
      rw [hky] at hKs
      have hlen := keyT_len cs i
      have HO1 := Lib.hid (HO.out.on (below_alloc1 wr (.cells #[.string cn, .int .i64 kc, .bool ky, .bool nl] 45)))
      have HB1 := Lib.hid (below_step HBx.out (below_alloc1 wr (.cells #[.string cn, .int .i64 kc, .bool ky, .bool nl] 45)))
      have hln : ((keyT cs i).length + 1) * 8 ≤ 140737488355328 := by omega
      have HN := Lib.hid HBx.out.size
      clear hky hci HO HBx hlen
      cases ky
      · have HKs : Hid (keyT cs (i + 1) = keyT cs i) := by show _ = _; rw [hKs]; simp
        clear hKs
        go_wp2_with fail
        go_roundw
        case rel => exact ⟨i + 1, by omega, by go_num, by rw [HKs.out]; exact HO1, HB1⟩
        case measure => simp [intOf]; omega
      · have HKs : Hid (keyT cs (i + 1) = keyT cs i ++ [i]) := by show _ = _; rw [hKs]; simp
        clear hKs
        go_wp2_with (first
          | (at_builtin; refine wpList_append_place w.heap.size _ w rfl _ _ rfl _ (keyT cs i) rfl (HO1.out.on ((Below.refl _ _).alloc (Nat.le_refl _) _)) _ i rfl (by simp [go_sem]) hln (Nat.le_refl _) (below_stepN (Nat.le_refl _) HB1.out ((Below.refl _ _).alloc (Nat.le_refl _) _)) ?_
             intro v' w2 hown hb2
             have HO2 := Lib.hid hown
             have HB2 := Lib.hid hb2
             clear hown hb2 HO1)
          | fail)
        refine ⟨⟨i + 1, by omega, by go_num, by rw [HKs.out]; exact HO2, HB2⟩, by simp [intOf]; omega⟩
    · obtain rfl : i = C := by omega
      rw [← HK.out] at HO
      go_wp2_with fail
      go_ret
      exact ⟨_, rfl, HO.out, HBx.out⟩
end Go.Proofs.YtlldamgnfaikhaaDoor
