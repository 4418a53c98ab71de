/- Texts appended to a row of one's own, and the walk of the law's texts. -/
import Derived.Test.YtnkdhipeklphaaaHMerge
import Derived.Test.YtnkdhipeklphaaaHLeast
import Derived.Test.YtnkdhipeklphaaaHSure
import Derived.Laws.AppendOwnNone
import Derived.Deep.RegionHeldLaw
import Derived.Deep.AppendLies
import Derived.Lib.AppendStr
namespace Go.Proofs.Ytnkdhipeklphaaa
open Go.RowKit Go.Sort

theorem owns_on2 {w w' : World} {base sz : Nat} {ty : TypeId} {v : Value} {n : Nat} {xs : List Value} (h : w.ownsRow base ty sz v n xs) (hb : Below w.heap.size w w') : w'.ownsRow base ty sz v n xs := by
  refine ⟨h.1, ?_⟩
  rcases h.2 with h1 | ⟨g, cap, cur, e, h1, h2, h3⟩
  · exact .inl h1
  · exact .inr ⟨g, cap, cur, e, h1, (hb.block g (blk_lt h2)).trans h2, h3⟩
/-- Texts behind a slice. -/
def Tx (w : World) (a : Option Addr) (l : List ByteArray) : Prop := TextsAt w a l.length (fun j => l.getD j ⟨#[]⟩)
theorem Tx.on {w w' : World} {a : Option Addr} {l : List ByteArray} (h : Tx w a l) (hb : Below w.heap.size w w') : Tx w' a l := TextsAt.on h rfl hb
theorem tx_none {w : World} {l : List ByteArray} (h : Tx w none l) : l = [] := by
  cases l with
  | nil => rfl
  | cons y ys => obtain ⟨_, _, hh, _⟩ := h 0 (by simp); cases hh
theorem tx_nil (w : World) (a : Option Addr) : Tx w a [] := fun i hi => by simp at hi
theorem strs_at (l : List ByteArray) (j : Nat) (hj : j < l.length) : (strs l)[j]? = some (.string (l.getD j ⟨#[]⟩)) := by
  simp [strs, List.getElem?_map, List.getElem?_eq_getElem hj, List.getD_eq_getElem?_getD]
theorem strs_len (l : List ByteArray) : (strs l).length = l.length := by simp [strs]
theorem strs_one (l : List ByteArray) : ∀ u ∈ strs l, u.oneCell' = true := by
  intro u hu
  simp only [strs, List.mem_map] at hu
  obtain ⟨s, _, rfl⟩ := hu
  rfl
theorem Tx.news {w : World} {ad : Addr} {l : List ByteArray} (h : Tx w (some ad) l) : ∀ j u, (strs l)[j]? = some u → w.cell? (ad.add j) = some u := by
  intro j u hj
  have hjl : j < l.length := by
    rcases Nat.lt_or_ge j (strs l).length with hl | hl
    · rw [strs_len] at hl; exact hl
    · rw [List.getElem?_eq_none hl] at hj; cases hj
  obtain ⟨b, o, e, h1⟩ := h j hjl
  cases e
  rw [strs_at l j hjl] at hj
  rw [Addr.add_lit, h1, ← hj]
theorem ownT_nil (w : World) (base : Nat) : OwnT w base (.slice none 0 0) [] := World.ownsRow_nil w base 9 1
theorem OwnT.on {w w' : World} {base : Nat} {v : Value} {l : List ByteArray} (h : OwnT w base v l) (hb : Below w.heap.size w w') : OwnT w' base v l := owns_on2 h hb
theorem OwnN.on {w w' : World} {base : Nat} {v : Value} {l : List Int} (h : OwnN w base v l) (hb : Below w.heap.size w w') : OwnN w' base v l := owns_on2 h hb
/-- What such a row is. -/
theorem OwnT.shape {w : World} {base : Nat} {v : Value} {l : List ByteArray} (h : OwnT w base v l) : ∃ a c, v = .slice a l.length c ∧ Tx w a l ∧ l.length ≤ c ∧ c ≤ maxLen ∧ ((a = none ∧ c = 0 ∧ l = []) ∨ ∃ g, a = some ⟨g, 0, none⟩) := by
  rcases h.2 with ⟨rfl, e⟩ | ⟨g, cap, cur, rfl, _, hg, h3, h4, _, ht⟩
  · have : l = [] := List.eq_nil_of_length_eq_zero e
    subst this
    exact ⟨none, 0, rfl, tx_nil _ _, Nat.le_refl _, by unfold maxLen; omega, .inl ⟨rfl, rfl, rfl⟩⟩
  · refine ⟨_, _, rfl, fun i hi => ⟨g, 0, rfl, ?_⟩, h3, h4, .inr ⟨g, rfl⟩⟩
    have := strs_at l i hi
    rw [← ht, List.getElem?_take_of_lt (by omega), Array.getElem?_toList] at this
    rw [Nat.zero_add]; exact cell_of hg this
theorem OwnT.txS {w : World} {base : Nat} {v : Value} {l : List ByteArray} (h : OwnT w base v l) : TxS w v l := by
  obtain ⟨a, c, e, h1, h2, h3, _⟩ := h.shape
  exact ⟨a, c, e, h1, h2, h3⟩
theorem nums_at (l : List Int) (j : Nat) (hj : j < l.length) : (nums l)[j]? = some (.int .i64 (l.getD j 0)) := by
  simp [nums, List.getElem?_map, List.getElem?_eq_getElem hj, List.getD_eq_getElem?_getD]
theorem OwnN.shape {w : World} {base : Nat} {v : Value} {l : List Int} (h : OwnN w base v l) : ∃ a c, v = .slice a l.length c ∧ (∀ i, i < l.length → ∃ g, a = some ⟨g, 0, none⟩ ∧ w.cell? ⟨g, i, none⟩ = some (.int .i64 (l.getD i 0))) ∧ l.length ≤ c ∧ c ≤ maxLen ∧ ((a = none ∧ c = 0 ∧ l = []) ∨ ∃ g, a = some ⟨g, 0, none⟩) := by
  rcases h.2 with ⟨rfl, e⟩ | ⟨g, cap, cur, rfl, _, hg, h3, h4, _, ht⟩
  · have : l = [] := List.eq_nil_of_length_eq_zero e
    subst this
    exact ⟨none, 0, rfl, fun i hi => by simp at hi, Nat.le_refl _, by unfold maxLen; omega, .inl ⟨rfl, rfl, rfl⟩⟩
  · refine ⟨_, _, rfl, fun i hi => ⟨g, rfl, ?_⟩, h3, h4, .inr ⟨g, rfl⟩⟩
    have := nums_at l i hi
    rw [← ht, List.getElem?_take_of_lt (by omega), Array.getElem?_toList] at this
    exact cell_of hg this
theorem ownT_join {w : World} {base : Nat} {v : Value} {xs ys : List ByteArray} (h : w.ownsRow base 9 1 v (xs.length + ys.length) (strs xs ++ strs ys)) : OwnT w base v (xs ++ ys) := by
  unfold OwnT
  rw [List.length_append, show strs (xs ++ ys) = strs xs ++ strs ys by simp [strs]]
  exact h
/-- append(row, texts...), at the operation. -/
theorem wp_append_texts (w : World) {o : Oper} {act : Act} {K : Act → World → Prop} {Q : Exit → Act → World → Prop} (s x : Operand)
    (ho : o.op = .call { callee := .builtin .append, args := #[s, x], argTypes := #[23, 23] }) (base : Nat) (v : Value) (es ys : List ByteArray) (hs : act.eval s = v) (hown : OwnT w base v es)
    (a : Option Addr) (m c' : Nat) (hx : act.eval x = .slice a m c') (hm : ys.length = m) (hnil : a = none → c' = 0) (hin : Tx w a ys) (hlen : es.length + ys.length ≤ 4000000) (hbase : base ≤ w.heap.size)
    (hK : ∀ v' w', OwnT w' base v' (es ++ ys) → w.grownBy w' v.ownBlock → K (act.put o.dst v') w') : o.wp Try.prog act w K Q := by
  obtain ⟨i0, hi, hz0, hz1, hz2⟩ := info_parts info9
  subst hm
  cases a with
  | none =>
    obtain rfl := tx_none hin
    obtain rfl := hnil rfl
    have hrun := run_append_owned_none (P := Try.prog) w base 23 o.type 9 i0 1 Try.underlying23 hi _ _ _ hown
    unfold Oper.wp
    simp only [List.length_nil] at hx
    simp [execOp, ho, resolve, invoke, builtin, hs, hx, hrun, Result.andThen]
    have := hK v w (by rw [List.append_nil]; exact hown) ⟨rfl, rfl, rfl, Nat.le_refl _, fun _ _ _ => rfl⟩
    exact this
  | some ad =>
    obtain ⟨v', w', hr, h2, h3, _⟩ := run_append_own_at (P := Try.prog) w base 23 o.type 9 i0 (.string ⟨#[]⟩) 1 16 Try.underlying23 hi hz0 hz1 hz2 rfl (by decide) v es.length (strs es) hown ad ys.length c' (strs ys) (by rw [strs_len]; omega) hin.news (strs_one ys) (by unfold maxLen; omega) (by omega) hbase
    unfold Oper.wp execOp
    simp only [ho, resolve, invoke, builtin, Sem.run_bind, Sem.run_pure, Result.andThen_ok, List.map_toArray, List.map_cons, List.map_nil, hs, hx, hr]
    exact hK v' w' (ownT_join h2) h3
theorem below_ownT {N : Nat} {w0 w w' : World} {v : Value} {es : List ByteArray} (hN : N ≤ w0.heap.size) (hb : Below N w0 w) (hown : OwnT w N v es) (hg : w.grownBy w' v.ownBlock) : Below N w0 w' :=
  hb.grown hg (Nat.le_trans hN hb.size) (fun k hk => (World.ownsRow.lt hown k hk).1)
/-- The same at a plain region's list. -/
theorem wpList_append_texts (N : Nat) (w w0 : World) {ops : Array Oper} {rest : List Oper} {o : Oper} {act : Act} {Q : Exit → Act → World → Prop} (hgd : o.guard = none) (s x : Operand)
    (ho : o.op = .call { callee := .builtin .append, args := #[s, x], argTypes := #[23, 23] }) (v : Value) (es ys : List ByteArray) (hs : act.eval s = v) (hown : OwnT w N v es)
    (a : Option Addr) (m c : Nat) (hx : act.eval x = .slice a m c) (hm : ys.length = m) (hnil : a = none → c = 0) (hin : Tx w a ys) (hlen : es.length + ys.length ≤ 4000000) (hN : N ≤ w0.heap.size) (hb : Below N w0 w)
    (hK : ∀ v' w', OwnT w' N v' (es ++ ys) → Below N w0 w' → wpList Try.prog ops Q rest (act.put o.dst v') w') : wpList Try.prog ops Q (o :: rest) act w :=
  wpList_plain hgd fun _ hK' => wp_append_texts w s x ho N v es ys hs hown a m c hx hm hnil hin hlen (Nat.le_trans hN hb.size) fun v' w' h1 h2 => hK' _ _ (hK v' w' h1 (below_ownT hN hb hown h2))
theorem Tx.take {w : World} {a : Option Addr} {l : List ByteArray} (h : Tx w a l) (k : Nat) : Tx w a (l.take k) := by
  intro i hi
  have hi' : i < l.length ∧ i < k := by rw [List.length_take] at hi; omega
  obtain ⟨b, o, e, h1⟩ := h i hi'.1
  exact ⟨b, o, e, by rw [h1]; simp only [List.getD_eq_getElem?_getD, List.getElem?_take_of_lt hi'.2]⟩
theorem Tx.drop {w : World} {b o : Nat} {l : List ByteArray} (h : Tx w (some ⟨b, o, none⟩) l) (k : Nat) : Tx w (some ⟨b, o + k, none⟩) (l.drop k) := by
  intro i hi
  have hi' : k + i < l.length := by rw [List.length_drop] at hi; omega
  obtain ⟨b', o', e, h1⟩ := h (k + i) hi'
  cases e
  refine ⟨b, o + k, rfl, ?_⟩
  rw [show o + k + i = o + (k + i) by omega, h1]
  simp only [List.getD_eq_getElem?_getD, List.getElem?_drop]
theorem one_text (w : World) (s : ByteArray) (t : TypeId) : Tx (w.alloc (.cells #[.string s] t)) (some ⟨w.heap.size, 0, none⟩) [s] := by
  intro i hi
  simp at hi
  subst hi
  exact ⟨w.heap.size, 0, rfl, by simp⟩
set_option maxHeartbeats 1000000 in
/-- Two slices of the same texts. -/
theorem texts_ (a a' : Option Addr) (L c c' : Nat) (l : List ByteArray) (w : World) (hL : L = l.length) (h : Tx w a l) (h' : Tx w a' l) (hl : l.length ≤ 4000000) :
    Calls Try.prog 8 #[.slice a L c, .slice a' L c'] w fun e w' => e = .returned (.bool true) ∧ Below w.heap.size w w' := by
  have HI := Lib.hid h
  have HI' := Lib.hid h'
  have HL := Lib.hid hL
  rw [← hL] at hl
  clear h h' hL
  go_enter Try.func8, Try.ntmps8
  go_wp2_with fail
  go_loopw [5] (fun iv wr => ∃ i : Nat, i ≤ L ∧ iv = .int .i64 i ∧ Hid (Below w.heap.size w wr)) (fun iv _ => L - (intOf iv).toNat)
  case atStart => exact ⟨0, Nat.zero_le _, rfl, Below.refl _ _⟩
  case round =>
    obtain ⟨i, hi, rfl, HB⟩ := hrel
    by_cases hlt : i < L
    · have hlt2 : (i : Int) < (L : Int) := by omega
      have hi2 : i < l.length := by rw [← HL.out]; exact hlt
      obtain ⟨b, o, rfl, q0⟩ := (TextsAt.on HI.out rfl HB.out) i hi2
      obtain ⟨b', o', rfl, q2⟩ := (TextsAt.on HI'.out rfl HB.out) i hi2
      simp only at q0 q2
      generalize l.getD i ⟨#[]⟩ = xi at *
      go_wp2_with fail
      go_quiet (fail)
      have HB1 := Lib.hid (below_drewN HB.out nq)
      go_wp2_with fail
      go_roundw
      case rel => exact ⟨i + 1, by omega, by go_num, HB1⟩
      case measure => simp [intOf]; omega
    · obtain rfl : i = L := by omega
      go_wp2_with fail
      go_ret
      exact ⟨rfl, HB.out⟩
end Go.Proofs.Ytnkdhipeklphaaa
