/- Texts in a row of one's own; the walk of value.Kind; texts put behind one another. -/
import Derived.Test.YtlgnllnjhpihdaaDoorTbCheck
namespace Go.Proofs.YtlgnllnjhpihdaaDoor
open Go.RowKit Go.Sort

theorem ba_ext {s t : ByteArray} (h : s.data.toList = t.data.toList) : s = t := lst_inj h
theorem ba_append (a b : ByteArray) : (a ++ b).data.toList = a.data.toList ++ b.data.toList := by simp
def strVals (ts : List (List UInt8)) : List Value := ts.map fun t => .string ⟨t.toArray⟩
theorem strVals_len (ts : List (List UInt8)) : (strVals ts).length = ts.length := by simp [strVals]
theorem strVals_append (a b : List (List UInt8)) : strVals a ++ strVals b = strVals (a ++ b) := by simp [strVals]
theorem strVals_one (ts : List (List UInt8)) : ∀ u ∈ strVals ts, u.oneCell' = true := by
  intro u hu
  obtain ⟨x, _, rfl⟩ := List.mem_map.1 hu
  rfl
/-- A row of texts that the call has made. -/
def OwnT (w : World) (base : Nat) (v : Value) (ts : List (List UInt8)) : Prop := w.ownsRow base 9 1 v ts.length (strVals ts)
theorem OwnT.on {w w' : World} {base : Nat} {v : Value} {xs : List (List UInt8)} (h : OwnT w base v xs) (hb : Below w.heap.size w w') : OwnT w' base v xs := by
  refine ⟨h.1, ?_⟩
  rcases h.2 with h1 | ⟨g, cap, cur, e, h1, h2, h3, h4, h5, h6⟩
  · exact .inl h1
  · have hlt : g < w.heap.size := by
      rcases Nat.lt_or_ge g w.heap.size with hl | hl
      · exact hl
      · rw [Array.getElem?_eq_none hl] at h2; cases h2
    exact .inr ⟨g, cap, cur, e, h1, (hb.block g hlt).trans h2, h3, h4, h5, h6⟩
theorem ownT_nil (w : World) (base : Nat) : OwnT w base (.slice none 0 0) [] := World.ownsRow_nil w base 9 1
theorem info9 : (Tryd.prog.info? 9).map (fun i => (i.zero, i.size, i.bytes)) = some (some (.string ⟨#[]⟩), 1, 16) := by kernel_rfl
theorem OwnT.some {w : World} {base : Nat} {v : Value} {ts : List (List UInt8)} (h : OwnT w base v ts) (hp : 0 < ts.length) : ∃ g c, v = .slice (some ⟨g, 0, none⟩) ts.length c ∧ ts.length ≤ c ∧ g < w.heap.size ∧ ∀ (j : Nat) x, (ts.map fun t => (⟨t.toArray⟩ : ByteArray))[j]? = some x → w.cell? ⟨g, 0 + j, none⟩ = some (.string x) := by
  rcases h.2 with ⟨rfl, e⟩ | ⟨g, cap, cur, rfl, h1, h2, h3, h4, h5, h6⟩
  · omega
  · refine ⟨g, cap, rfl, h3, (Array.getElem?_eq_some_iff.1 h2).1, fun j x hj => ?_⟩
    obtain ⟨hlt, e⟩ := List.getElem?_eq_some_iff.1 hj
    rw [List.length_map] at hlt
    have := World.ownsRow.cellAt h j (by omega)
    rw [Nat.zero_add, this]
    simp [strVals, List.getElem?_eq_getElem hlt]
    simpa using e
/-- append(row, text). -/
theorem wpList_append_lit (N : Nat) (w w0 : World) {ops : Array Oper} {rest : List Oper} {o : Oper} {act : Act} {Q : Exit → Act → World → Prop} (hgd : o.guard = none) (s x : Operand)
    (ho : o.op = .call { callee := .builtin .append, args := #[s, x], argTypes := #[59, 59] }) (v : Value) (es : List (List UInt8)) (hs : act.eval s = v) (hown : OwnT w N v es)
    (B : Nat) (p : List UInt8) (hx : act.eval x = .slice (some ⟨B, 0, none⟩) 1 1) (hin : w.cell? ⟨B, 0, none⟩ = some (.string ⟨p.toArray⟩)) (hlen : (es.length + 1) * 16 ≤ 140737488355328) (hN : N ≤ w0.heap.size) (hb : Below N w0 w)
    (hK : ∀ v' w', OwnT w' N v' (es ++ [p]) → Below N w0 w' → wpList Tryd.prog ops Q rest (act.put o.dst v') w') : wpList Tryd.prog ops Q (o :: rest) act w := by
  obtain ⟨i0, hi, hz0, hz1, hz2⟩ := info_parts info9
  have hnews : ∀ j u, (strVals [p])[j]? = some u → w.cell? ((⟨B, 0, none⟩ : Addr).add j) = some u := by
    intro j u hj
    cases j with
    | zero => simp [strVals] at hj; subst hj; rw [Addr.add_lit]; exact hin
    | succ j => simp [strVals] at hj
  refine wpList_append_own w hgd s x 59 ho N 9 i0 (.string ⟨#[]⟩) 1 16 Tryd.underlying59 hi hz0 hz1 hz2 rfl (by decide) v es.length (strVals es) hs hown ⟨B, 0, none⟩ 1 1 (strVals [p]) hx (by simp [strVals]) hnews (strVals_one _) (by unfold maxLen; omega) (by omega) (Nat.le_trans hN hb.size) ?_
  intro v' w' h1 h2 _
  refine hK v' w' ?_ (hb.grown h2 (Nat.le_trans hN hb.size) (fun k hk => (World.ownsRow.lt hown k hk).1))
  unfold OwnT
  rw [← strVals_append, List.length_append]
  exact h1
/-- A kind's name. -/
def kindS (k : Int) : ByteArray := if k = 0 then ⟨#[78, 85, 76, 76]⟩ else if k = 1 then ⟨#[73, 78, 84]⟩ else if k = 2 then ⟨#[84, 69, 88, 84]⟩ else if k = 3 then ⟨#[66, 79, 79, 76]⟩ else ⟨#[]⟩
theorem kind_ (k : Int) (w : World) : Calls Tryd.prog 43 #[.int .i64 k] w fun e w' => e = .returned (.string (kindS k)) ∧ Below w.heap.size w w' := by
  by_cases h0 : k = 0
  · subst h0
    go_enter Tryd.func43, Tryd.ntmps43
    go_wp2_with fail
    go_ret
    exact ⟨rfl, Below.refl _ _⟩
  by_cases h1 : k = 1
  · subst h1
    go_enter Tryd.func43, Tryd.ntmps43
    go_wp2_with fail
    go_ret
    exact ⟨rfl, Below.refl _ _⟩
  by_cases h2 : k = 2
  · subst h2
    go_enter Tryd.func43, Tryd.ntmps43
    go_wp2_with fail
    go_ret
    exact ⟨rfl, Below.refl _ _⟩
  by_cases h3 : k = 3
  · subst h3
    go_enter Tryd.func43, Tryd.ntmps43
    go_wp2_with fail
    go_ret
    exact ⟨rfl, Below.refl _ _⟩
  · have e : kindS k = ⟨#[]⟩ := by simp [kindS, h0, h1, h2, h3]
    rw [e]
    go_enter Tryd.func43, Tryd.ntmps43
    go_wp2_with fail
    go_ret
    exact ⟨rfl, Below.refl _ _⟩
theorem kindS_W {k : Int} (h : k = 1 ∨ k = 2 ∨ k = 3) : kindS k = ofL (kindW k) := by
  rcases h with rfl | rfl | rfl <;> rfl
end Go.Proofs.YtlgnllnjhpihdaaDoor
