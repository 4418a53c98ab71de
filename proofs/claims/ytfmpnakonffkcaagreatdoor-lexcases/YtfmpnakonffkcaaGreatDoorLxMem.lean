/- How bytes and tokens lie in memory; a byte, bytes, a token appended to a row of one's own. -/
import Derived.Test.YtfmpnakonffkcaaGreatDoorChecked
import Derived.Test.YtfmpnakonffkcaaGreatDoorLxMath
import Derived.WalkKit
import Derived.WalkSpells
import Derived.WalkLawsBesides
import Derived.Lib.QuietBelow
import Derived.Lib.Hide
import Derived.Deep.RegionWith
import Derived.Deep.QuietTactic
import Derived.Deep.RegionHeld3
import Derived.LoopN
import Derived.WalkSmall
import Derived.IntWalk
import Derived.Laws.StructEq
import Derived.BigQuiet
import Derived.OwnWalk
import Derived.Laws.BytesArg
import Derived.Lib.AppendStr
import Derived.Lib.SlBytesConst
import Derived.Lib.SliceRun
import Derived.Deep.AppendLies
import Derived.Shelf.Abstract
namespace Go.Proofs.YtfmpnakonffkcaaGreatDoor
open Go.RowKit Go.Sort

theorem ret_bool {a b : Bool} (h : a = b) : Ending.returned (.bool a) = .returned (.bool b) := by rw [h]
theorem ret_int {k : IntKind} {a b : Int} (h : a = b) : Ending.returned (.int k a) = .returned (.int k b) := by rw [h]
theorem below_step {W w w' : World} (h : Below W.heap.size W w) (hb : Below w.heap.size w w') : Below W.heap.size W w' := h.trans (hb.mono h.size)
theorem below_stepN {N : Nat} {W w w' : World} (hN : N ≤ W.heap.size) (h : Below N W w) (hb : Below w.heap.size w w') : Below N W w' := h.trans (hb.mono (Nat.le_trans hN h.size))
theorem below_drew (W : World) : Below W.heap.size W W.drew := (Below.refl _ _).drew
theorem below_alloc1 (w : World) (o : Obj) : Below w.heap.size w (w.alloc o) := (Below.refl _ _).alloc (Nat.le_refl _) _
def errV (ty : TypeId) (e : Int) : Value := if e = 0 then .nilIface else .iface ty (.int .i64 e)
def inI (n : Int) : Prop := -9223372036854775808 ≤ n ∧ n ≤ 9223372036854775807
theorem toList_lst (s : ByteArray) : s.toList = lst s := Lib.toList_data s
theorem size_lst (s : ByteArray) : s.size = (lst s).length := Lib.size_eq s
theorem beq_lst (s t : ByteArray) : (s.toList == t.toList) = (lst s == lst t) := by rw [toList_lst, toList_lst]
theorem beq_ne {s t : ByteArray} (h : lst s ≠ lst t) : (s.toList == t.toList) = false := by rw [beq_lst]; simpa using h
theorem beq_swap (s t : List UInt8) : (s == t) = (t == s) := by
  by_cases h : s = t
  · subst h; rfl
  · rw [beq_eq_false_iff_ne.2 h, beq_eq_false_iff_ne.2 (Ne.symm h)]
theorem two_ways {b : Bool} (h : b = true) (h' : b = false) : False := by rw [h] at h'; cases h'
theorem bs_ofL (l : List UInt8) : ByteArray.mk l.toArray = ofL l := rfl

def bs (xs : List Nat) : ByteArray := ⟨(xs.map fun n => UInt8.ofNat n).toArray⟩
/-- Bytes as numbers. -/
def ns (l : List UInt8) : List Nat := l.map UInt8.toNat
theorem bs_ns (l : List UInt8) : bs (ns l) = ⟨l.toArray⟩ := by
  unfold bs ns; rw [List.map_map]
  have : (fun n => UInt8.ofNat n) ∘ UInt8.toNat = id := by funext x; simp
  rw [this, List.map_id]
theorem ns_length (l : List UInt8) : (ns l).length = l.length := by simp [ns]
theorem ns_append (a b : List UInt8) : ns a ++ ns b = ns (a ++ b) := by simp [ns]
/-- Bytes as values. -/
def vals (xs : List Nat) : List Value := xs.map fun (x : Nat) => .int .u8 (x : Int)
theorem vals_len (xs : List Nat) : (vals xs).length = xs.length := by simp [vals]
theorem vals_append (xs ys : List Nat) : vals xs ++ vals ys = vals (xs ++ ys) := by simp [vals]
theorem vals_one (xs : List Nat) : ∀ u ∈ vals xs, u.oneCell' = true := by
  intro u hu
  obtain ⟨x, _, rfl⟩ := List.mem_map.1 hu
  rfl
theorem vals_get (xs : List Nat) (i : Nat) (h : i < xs.length) : (vals xs)[i]? = some (.int .u8 (xs.getD i 0 : Nat)) := by
  simp [vals, List.getElem?_map, List.getElem?_eq_getElem h, List.getD_eq_getElem?_getD]
/-- The cells behind a slice of bytes. -/
def BytesIn (w : World) (a : Option Addr) (xs : List Nat) : Prop :=
  ∀ i, i < xs.length → ∃ b o, a = some ⟨b, o, none⟩ ∧ w.cell? ⟨b, o + i, none⟩ = some (.int .u8 (xs.getD i 0 : Nat))
theorem BytesIn.on {w w' : World} {a : Option Addr} {xs : List Nat} (h : BytesIn w a xs) (hb : Below w.heap.size w w') : BytesIn w' a xs := by
  intro i hi
  obtain ⟨b, o, e, h1⟩ := h i hi
  exact ⟨b, o, e, (hb.cell (block_lt_of_cell h1)).trans h1⟩
theorem bytesIn_nil (w : World) (a : Option Addr) : BytesIn w a [] := fun i hi => by simp at hi
theorem BytesIn.news {w : World} {ad : Addr} {xs : List Nat} (h : BytesIn w (some ad) xs) : ∀ j u, (vals xs)[j]? = some u → w.cell? (ad.add j) = some u := by
  intro j u hj
  have hl : j < xs.length := by
    rcases Nat.lt_or_ge j xs.length with h | h
    · exact h
    · rw [List.getElem?_eq_none (by rw [vals_len]; exact h)] at hj; cases hj
  obtain ⟨b, o, e, h1⟩ := h j hl
  cases e
  rw [vals_get xs j hl] at hj
  cases hj
  rw [Addr.add_lit]
  exact h1
/-- A row of bytes that the call has made. -/
def Own (w : World) (base : Nat) (v : Value) (xs : List Nat) : Prop := w.ownsRow base 5 1 v xs.length (vals xs)
theorem Own.bytes {w : World} {base : Nat} {v : Value} {xs : List Nat} (h : Own w base v xs) : ∃ a c, v = .slice a xs.length c ∧ BytesIn w a xs ∧ (a = none → c = 0) := by
  rcases h.2 with ⟨rfl, e⟩ | ⟨g, cap, cur, rfl, _, _, _, _, _, _⟩
  · have : xs = [] := List.eq_nil_of_length_eq_zero e
    subst this
    exact ⟨none, 0, rfl, bytesIn_nil _ _, fun _ => rfl⟩
  · refine ⟨_, _, rfl, fun i hi => ⟨g, 0, rfl, ?_⟩, fun hh => by cases hh⟩
    have := World.ownsRow.cellAt h i (by omega)
    rw [Nat.zero_add, this, vals_get xs i hi]
theorem Own.cells {w : World} {base g n c : Nat} {xs : List Nat} (h : Own w base (.slice (some ⟨g, 0, none⟩) n c) xs) : n = xs.length ∧ BytesIn w (some ⟨g, 0, none⟩) xs ∧ base ≤ g ∧ g < w.heap.size := by
  obtain ⟨a, c', e, hb, _⟩ := h.bytes
  simp only [Value.slice.injEq] at e
  obtain ⟨rfl, rfl, rfl⟩ := e
  obtain ⟨h1, h2⟩ := World.ownsRow.lt h g rfl
  exact ⟨rfl, hb, h1, h2⟩
theorem Own.on {w w' : World} {base : Nat} {v : Value} {xs : List Nat} (h : Own w base v xs) (hb : Below w.heap.size w w') : Own w' base v xs := by
  refine ⟨h.1, ?_⟩
  rcases h.2 with h1 | ⟨g, cap, cur, e, h1, h2, h3, h4, h5, h6⟩
  · exact .inl h1
  · have hlt : g < w.heap.size := by
      rcases Nat.lt_or_ge g w.heap.size with hl | hl
      · exact hl
      · rw [Array.getElem?_eq_none hl] at h2; cases h2
    exact .inr ⟨g, cap, cur, e, h1, (hb.block g hlt).trans h2, h3, h4, h5, h6⟩
theorem Own.lower {w : World} {base base' : Nat} {v : Value} {xs : List Nat} (h : Own w base v xs) (hb : base' ≤ base) : Own w base' v xs := by
  refine ⟨h.1, ?_⟩
  rcases h.2 with h1 | ⟨g, cap, cur, e, h1, h2, h3, h4, h5, h6⟩
  · exact .inl h1
  · exact .inr ⟨g, cap, cur, e, Nat.le_trans hb h1, h2, h3, h4, h5, h6⟩

theorem infoB : (Tryz.prog.info? 5).map (fun i => (i.zero, i.size, i.bytes)) = some (some (.int .u8 0), 1, 1) := by kernel_rfl

/-- string(b). -/
theorem conv_ (w : World) (a : Option Addr) (n c : Nat) (xs : List Nat) (hn : n = xs.length) (h : BytesIn w a xs) : (convert 41 9 (.slice a n c)).run Tryz.prog w = .ok (.string (bs xs)) w := by
  have e : strOfNums (xs.map fun (x : Nat) => (x : Int)) = bs xs := by simp [strOfNums, bs, Function.comp_def]
  subst hn
  cases a with
  | none =>
    have hx : xs = [] := by
      cases xs with
      | nil => rfl
      | cons y ys => obtain ⟨_, _, hh, _⟩ := h 0 (by simp); cases hh
    subst hx
    rw [run_convert_bytes_nil w 41 5 Tryz.underlying41 Tryz.underlying5 _ _ 9 Tryz.underlying9]
    rfl
  | some ad =>
    by_cases hx : xs = []
    · subst hx
      rw [run_convert_bytes_string w 41 9 5 _ _ _ Tryz.underlying41 Tryz.underlying5 Tryz.underlying9]
      rw [run_bytesToString w ad _ c [] (by rfl)]
      rfl
    · obtain ⟨b, o, hh, _⟩ := h 0 (by cases xs with | nil => exact absurd rfl hx | cons y ys => simp)
      cases hh
      rw [run_convert_bytes_arg w 41 5 Tryz.underlying41 Tryz.underlying5 b o _ c (xs.map fun (x : Nat) => (x : Int)) (by simp) (fun i hi => by
        obtain ⟨b', o', hh, h1⟩ := h i hi
        cases hh
        rw [h1]
        simp [List.getD_eq_getElem?_getD, List.getElem?_map, List.getElem?_eq_getElem hi]) 9 Tryz.underlying9, e]

theorem bytes_none {w : World} {xs : List Nat} (h : BytesIn w none xs) : xs = [] := by
  cases xs with
  | nil => rfl
  | cons y ys => obtain ⟨_, _, hh, _⟩ := h 0 (by simp); cases hh
theorem own_join {w : World} {base n m : Nat} {v : Value} {xs ys : List Nat} (hn : xs.length = n) (hm : ys.length = m) (h : w.ownsRow base 5 1 v (n + m) (vals xs ++ vals ys)) : Own w base v (xs ++ ys) := by
  subst hn hm
  unfold Own
  rw [← vals_append, List.length_append]
  exact h
theorem own_nil (w : World) (base : Nat) : Own w base (.slice none 0 0) [] := World.ownsRow_nil w base 5 1
theorem below_grow {N : Nat} {w0 w w' : World} {v : Value} {es : List Nat} (hN : N ≤ w0.heap.size) (hb : Below N w0 w) (hown : Own w N v es) (hg : w.grownBy w' v.ownBlock) : Below N w0 w' :=
  hb.grown hg (Nat.le_trans hN hb.size) (fun k hk => (World.ownsRow.lt hown k hk).1)
/-- append(row, bytes...), at the operation. -/
theorem wp_append_bytes (w : World) {o : Oper} {act : Act} {K : Act → World → Prop} {Q : Exit → Act → World → Prop} (s x : Operand)
    (ho : o.op = .call { callee := .builtin .append, args := #[s, x], argTypes := #[41, 41] }) (base : Nat) (v : Value) (es ys : List Nat) (hs : act.eval s = v) (hown : Own w base v es)
    (a : Option Addr) (m c' : Nat) (hx : act.eval x = .slice a m c') (hm : ys.length = m) (hnil : a = none → c' = 0) (hin : BytesIn w a ys) (hbytes : es.length + ys.length ≤ 140737488355328) (hbase : base ≤ w.heap.size)
    (hK : ∀ v' w', Own w' base v' (es ++ ys) → w.grownBy w' v.ownBlock → K (act.put o.dst v') w') : o.wp Tryz.prog act w K Q := by
  obtain ⟨i0, hi, hz0, hz1, hz2⟩ := info_parts infoB
  subst hm
  cases a with
  | none =>
    obtain rfl := bytes_none hin
    obtain rfl := hnil rfl
    have hrun := run_append_owned_none (P := Tryz.prog) w base 41 o.type 5 i0 1 Tryz.underlying41 hi _ _ _ hown
    unfold Oper.wp
    simp only [List.length_nil] at hx
    simp [execOp, ho, resolve, invoke, builtin, hs, hx, hrun, Result.andThen]
    have := hK v w (by rw [List.append_nil]; exact hown) ⟨rfl, rfl, rfl, Nat.le_refl _, fun _ _ _ => rfl⟩
    exact this
  | some ad =>
    obtain ⟨v', w', hr, h2, h3, _⟩ := run_append_own_at (P := Tryz.prog) w base 41 o.type 5 i0 (.int .u8 0) 1 1 Tryz.underlying41 hi hz0 hz1 hz2 rfl (by decide) v es.length (vals es) hown ad ys.length c' (vals ys) (by rw [vals_len]; omega) hin.news (vals_one ys) (by unfold maxLen; omega) (by omega) hbase
    unfold Oper.wp execOp
    simp only [ho, resolve, invoke, builtin, Sem.run_bind, Sem.run_pure, Result.andThen_ok, List.map_toArray, List.map_cons, List.map_nil, hs, hx, hr]
    exact hK v' w' (own_join rfl rfl h2) h3
/-- The same at a plain region's list. -/
theorem wpList_append_bytes (w : World) {ops : Array Oper} {rest : List Oper} {o : Oper} {act : Act} {Q : Exit → Act → World → Prop} (hgd : o.guard = none) (s x : Operand)
    (ho : o.op = .call { callee := .builtin .append, args := #[s, x], argTypes := #[41, 41] }) (base : Nat) (v : Value) (es ys : List Nat) (hs : act.eval s = v) (hown : Own w base v es)
    (a : Option Addr) (m c' : Nat) (hx : act.eval x = .slice a m c') (hm : ys.length = m) (hnil : a = none → c' = 0) (hin : BytesIn w a ys) (hbytes : es.length + ys.length ≤ 140737488355328) (hbase : base ≤ w.heap.size)
    (hK : ∀ v' w', Own w' base v' (es ++ ys) → w.grownBy w' v.ownBlock → wpList Tryz.prog ops Q rest (act.put o.dst v') w') : wpList Tryz.prog ops Q (o :: rest) act w :=
  wpList_plain hgd fun _ hK' => wp_append_bytes w s x ho base v es ys hs hown a m c' hx hm hnil hin hbytes hbase fun v' w' h1 h2 => hK' _ _ (hK v' w' h1 h2)
/-- Bytes that may be appended to: a row of one's own, or one that is full. -/
def ApB (w : World) (base : Nat) (v : Value) (xs : List Nat) : Prop :=
  Own w base v xs ∨ ∃ g, v = .slice (some ⟨g, 0, none⟩) xs.length xs.length ∧ base ≤ g ∧ BytesIn w (some ⟨g, 0, none⟩) xs ∧ 0 < xs.length
theorem ApB.bytes {w : World} {base : Nat} {v : Value} {xs : List Nat} (h : ApB w base v xs) : ∃ a c, v = .slice a xs.length c ∧ BytesIn w a xs := by
  rcases h with h | ⟨g, rfl, _, h2, _⟩
  · obtain ⟨a, c, e, h1, _⟩ := h.bytes
    exact ⟨a, c, e, h1⟩
  · exact ⟨_, _, rfl, h2⟩
theorem one_in {w : World} {B c : Nat} (h : w.cell? ⟨B, 0, none⟩ = some (.int .u8 (c : Int))) : BytesIn w (some ⟨B, 0, none⟩) [c] := by
  intro i hi
  simp at hi
  subst hi
  exact ⟨B, 0, rfl, h⟩
theorem ApB.on {w w' : World} {base : Nat} {v : Value} {xs : List Nat} (h : ApB w base v xs) (hb : Below w.heap.size w w') : ApB w' base v xs := by
  rcases h with h | ⟨g, e, h1, h2, h3⟩
  · exact .inl (h.on hb)
  · exact .inr ⟨g, e, h1, h2.on hb, h3⟩
/-- append(row, byte). -/
theorem wpList_append_one (N : Nat) (w w0 : World) {ops : Array Oper} {rest : List Oper} {o : Oper} {act : Act} {Q : Exit → Act → World → Prop} (hgd : o.guard = none) (s x : Operand)
    (ho : o.op = .call { callee := .builtin .append, args := #[s, x], argTypes := #[41, 41] }) (v : Value) (es : List Nat) (hs : act.eval s = v) (hap : ApB w N v es)
    (B c : Nat) (hx : act.eval x = .slice (some ⟨B, 0, none⟩) 1 1) (hc : w.cell? ⟨B, 0, none⟩ = some (.int .u8 (c : Int))) (hlen : es.length + 1 ≤ 140737488355328) (hN : N ≤ w0.heap.size) (hb : Below N w0 w)
    (hK : ∀ v' w', Own w' N v' (es ++ [c]) → Below N w0 w' → wpList Tryz.prog ops Q rest (act.put o.dst v') w') : wpList Tryz.prog ops Q (o :: rest) act w := by
  rcases hap with hown | ⟨g, rfl, hg, hin, hpos⟩
  · exact wpList_append_bytes w hgd s x ho N v es [c] hs hown (some ⟨B, 0, none⟩) 1 1 hx rfl (fun h => by cases h) (one_in hc) hlen (Nat.le_trans hN hb.size) fun v' w' h1 h2 => hK v' w' h1 (below_grow hN hb hown h2)
  · obtain ⟨i0, hi, hz0, hz1, hz2⟩ := info_parts infoB
    refine wpList_plain hgd fun _ hK' => ?_
    have hge := grownCap_ge w (es.length + 1) es.length 5
    have hcm : grownCap w (es.length + 1) es.length 5 ≤ maxLen := grownCap_le_maxLen w _ _ _ (by unfold maxLen; omega)
    have hr := run_append_grow (P := Tryz.prog) w 41 o.type 5 i0 (.int .u8 0) Tryz.underlying41 hi hz0 ⟨g, 0, none⟩ es.length es.length (vals es) (by rw [vals_len, hz1]; omega) hin.news ⟨B, 0, none⟩ 1 1 (vals [c]) (by rw [hz1]; rfl) (one_in hc).news (by omega) (by omega) (by rw [hz2]; exact growslice_fits (by omega) (by omega))
    unfold Oper.wp execOp
    simp only [ho, resolve, invoke, builtin, Sem.run_bind, Sem.run_pure, Result.andThen_ok, List.map_toArray, List.map_cons, List.map_nil, hs, hx, hr]
    refine hK' _ _ (hK _ _ ?_ ?_)
    · refine own_join rfl rfl ⟨by rw [List.length_append, vals_len, vals_len]; simp, .inr ⟨w.heap.size, _, _, rfl, Nat.le_trans hN hb.size, heap_alloc_new w.drew _, hge, hcm, ?_, ?_⟩⟩
      · simp only [Array.size_append, List.size_toArray, size_zeroCells, vals_len]
        simp [Value.cells]; omega
      · have e : (es.length + [c].length) * 1 = (vals es ++ vals [c]).length := by rw [List.length_append, vals_len, vals_len]; simp
        rw [Array.toList_append, Array.toList_append, e]
        exact List.take_left
    · exact (hb.drew).alloc (Nat.le_trans hN hb.size) _


/-! ### Tokens -/
def agT (t : Tk) : Value := .agg #[.int .i64 t.k, .string t.tx, .int .i64 t.n, .int .i64 t.p]
/-- A token lies there. -/
def InT (w : World) (blk off : Nat) (t : Tk) : Prop :=
  w.cell? ⟨blk, off, none⟩ = some (.int .i64 t.k) ∧ w.cell? ⟨blk, off + 1, none⟩ = some (.string t.tx) ∧ w.cell? ⟨blk, off + 2, none⟩ = some (.int .i64 t.n) ∧ w.cell? ⟨blk, off + 3, none⟩ = some (.int .i64 t.p)
theorem InT.on {w w' : World} {blk off : Nat} {t : Tk} (h : InT w blk off t) (hb : Below w.heap.size w w') : InT w' blk off t := by
  obtain ⟨h0, h1, h2, h3⟩ := h
  exact ⟨(hb.cell (block_lt_of_cell h0)).trans h0, (hb.cell (block_lt_of_cell h1)).trans h1, (hb.cell (block_lt_of_cell h2)).trans h2, (hb.cell (block_lt_of_cell h3)).trans h3⟩
theorem inT_new (w : World) (t : Tk) (ty : TypeId) : InT (w.alloc (.cells #[.int .i64 t.k, .string t.tx, .int .i64 t.n, .int .i64 t.p] ty)) w.heap.size 0 t := by
  refine ⟨?_, ?_, ?_, ?_⟩ <;> simp [go_sem]
/-- Tokens behind a slice. -/
def TksIn (w : World) (a : Option Addr) (ts : List Tk) : Prop :=
  ∀ i (h : i < ts.length), ∃ b o, a = some ⟨b, o, none⟩ ∧ InT w b (o + i * 4) ts[i]
theorem TksIn.on {w w' : World} {a : Option Addr} {ts : List Tk} (h : TksIn w a ts) (hb : Below w.heap.size w w') : TksIn w' a ts := by
  intro i hi
  obtain ⟨b, o, e, h1⟩ := h i hi
  exact ⟨b, o, e, h1.on hb⟩
theorem TksIn.get {w : World} {a : Option Addr} {ts : List Tk} (h : TksIn w a ts) (i : Nat) (hi : i < ts.length) : ∃ b o, a = some ⟨b, o, none⟩ ∧ ∃ k tx n p, ts[i] = ⟨k, tx, n, p⟩ ∧ InT w b (o + i * 4) ⟨k, tx, n, p⟩ := by
  obtain ⟨b, o, e, h1⟩ := h i hi
  exact ⟨b, o, e, _, _, _, _, rfl, h1⟩
theorem tksIn_nil (w : World) (a : Option Addr) : TksIn w a [] := fun i hi => by simp at hi
theorem TksIn.take {w : World} {a : Option Addr} {ts : List Tk} (h : TksIn w a ts) (n : Nat) : TksIn w a (ts.take n) := by
  intro i hi
  rw [List.length_take] at hi
  obtain ⟨b, o, e, h1⟩ := h i (by omega)
  exact ⟨b, o, e, by rw [List.getElem_take]; exact h1⟩
def tkCells : List Tk → List Value
  | [] => []
  | v :: r => .int .i64 v.k :: .string v.tx :: .int .i64 v.n :: .int .i64 v.p :: tkCells r
theorem tkCells_len : ∀ vs, (tkCells vs).length = vs.length * 4
  | [] => rfl
  | a :: r => by simp only [tkCells, List.length_cons, tkCells_len r]; omega
theorem tkCells_append : ∀ a b, tkCells a ++ tkCells b = tkCells (a ++ b)
  | [], _ => rfl
  | x :: r, b => by simp only [tkCells, List.cons_append, tkCells_append r b]
theorem tkCells_at : ∀ (vs : List Tk) (i : Nat) (h : i < vs.length), (tkCells vs)[i * 4]? = some (.int .i64 vs[i].k) ∧ (tkCells vs)[i * 4 + 1]? = some (.string vs[i].tx) ∧ (tkCells vs)[i * 4 + 2]? = some (.int .i64 vs[i].n) ∧ (tkCells vs)[i * 4 + 3]? = some (.int .i64 vs[i].p)
  | [], i, h => by simp at h
  | a :: r, 0, _ => ⟨rfl, rfl, rfl, rfl⟩
  | a :: r, i + 1, h => by
    obtain ⟨h0, h1, h2, h3⟩ := tkCells_at r i (by simpa using h)
    refine ⟨?_, ?_, ?_, ?_⟩
    · rw [show (i + 1) * 4 = i * 4 + 4 by omega]; simp only [tkCells, List.getElem?_cons_succ, List.getElem_cons_succ]; exact h0
    · rw [show (i + 1) * 4 + 1 = i * 4 + 1 + 4 by omega]; simp only [tkCells, List.getElem?_cons_succ, List.getElem_cons_succ]; exact h1
    · rw [show (i + 1) * 4 + 2 = i * 4 + 2 + 4 by omega]; simp only [tkCells, List.getElem?_cons_succ, List.getElem_cons_succ]; exact h2
    · rw [show (i + 1) * 4 + 3 = i * 4 + 3 + 4 by omega]; simp only [tkCells, List.getElem?_cons_succ, List.getElem_cons_succ]; exact h3
theorem tkCells_one : ∀ (vs : List Tk), ∀ u ∈ tkCells vs, u.oneCell' = true
  | [], u, h => by simp [tkCells] at h
  | a :: r, u, h => by
    simp only [tkCells, List.mem_cons] at h
    rcases h with rfl | rfl | rfl | rfl | h
    · rfl
    · rfl
    · rfl
    · rfl
    · exact tkCells_one r u h
theorem tkNews {w : World} {b o : Nat} {vs : List Tk} (h : TksIn w (some ⟨b, o, none⟩) vs) : ∀ j u, (tkCells vs)[j]? = some u → w.cell? ((⟨b, o, none⟩ : Addr).add j) = some u := by
  intro j u hj
  obtain ⟨hlt, _⟩ := List.getElem?_eq_some_iff.1 hj
  rw [tkCells_len] at hlt
  have hi : j / 4 < vs.length := by omega
  obtain ⟨b', o', e', h0, h1, h2, h3⟩ := h (j / 4) hi
  simp only [Option.some.injEq, Addr.mk.injEq] at e'
  obtain ⟨rfl, rfl, _⟩ := e'
  obtain ⟨c0, c1, c2, c3⟩ := tkCells_at vs (j / 4) hi
  rw [Addr.add_lit]
  rcases (by omega : j = j / 4 * 4 ∨ j = j / 4 * 4 + 1 ∨ j = j / 4 * 4 + 2 ∨ j = j / 4 * 4 + 3) with e | e | e | e
  · rw [e, c0] at hj; rw [e]; exact h0.trans hj
  · rw [e, c1] at hj; rw [e, ← Nat.add_assoc]; exact h1.trans hj
  · rw [e, c2] at hj; rw [e, ← Nat.add_assoc]; exact h2.trans hj
  · rw [e, c3] at hj; rw [e, ← Nat.add_assoc]; exact h3.trans hj
theorem one_inT {w : World} {B : Nat} {t : Tk} (h : InT w B 0 t) : TksIn w (some ⟨B, 0, none⟩) [t] := by
  intro i hi
  simp at hi
  subst hi
  exact ⟨B, 0, rfl, by simpa using h⟩
/-- A row of tokens that the call has made. -/
def OwnT (w : World) (base : Nat) (v : Value) (vs : List Tk) : Prop := w.ownsRow base 46 4 v vs.length (tkCells vs)
theorem OwnT.tks {w : World} {base : Nat} {v : Value} {vs : List Tk} (h : OwnT w base v vs) : ∃ a c, v = .slice a vs.length c ∧ TksIn w a vs ∧ (a = none → c = 0) ∧ (∀ b o x, a = some ⟨b, o, x⟩ → base ≤ b ∧ o = 0 ∧ x = none) := by
  rcases h.2 with ⟨rfl, h0⟩ | ⟨g, cap, cur, rfl, hb, hg, h1, h2, h3, h4⟩
  · refine ⟨none, 0, by rw [h0], fun i hi => by omega, fun _ => rfl, fun _ _ _ e => by cases e⟩
  · refine ⟨_, cap, rfl, fun i hi => ⟨g, 0, rfl, ?_⟩, fun hh => (by cases hh), fun b o x e => by cases e; exact ⟨hb, rfl, rfl⟩⟩
    obtain ⟨c0, c1, c2, c3⟩ := tkCells_at vs i hi
    have k0 := World.ownsRow.cells h (g := g) rfl _ _ c0
    have k1 := World.ownsRow.cells h (g := g) rfl _ _ c1
    have k2 := World.ownsRow.cells h (g := g) rfl _ _ c2
    have k3 := World.ownsRow.cells h (g := g) rfl _ _ c3
    rw [Addr.add_lit] at k0 k1 k2 k3
    exact ⟨k0, by rw [Nat.add_assoc]; exact k1, by rw [Nat.add_assoc]; exact k2, by rw [Nat.add_assoc]; exact k3⟩
theorem OwnT.on {w w' : World} {base : Nat} {v : Value} {xs : List Tk} (h : OwnT w base v xs) (hb : Below w.heap.size w w') : OwnT w' base v xs := by
  refine ⟨h.1, ?_⟩
  rcases h.2 with h1 | ⟨g, cap, cur, e, h1, h2, h3, h4, h5, h6⟩
  · exact .inl h1
  · have hlt : g < w.heap.size := by
      rcases Nat.lt_or_ge g w.heap.size with hl | hl
      · exact hl
      · rw [Array.getElem?_eq_none hl] at h2; cases h2
    exact .inr ⟨g, cap, cur, e, h1, (hb.block g hlt).trans h2, h3, h4, h5, h6⟩
theorem ownT_nil (w : World) (base : Nat) : OwnT w base (.slice none 0 0) [] := World.ownsRow_nil w base 46 4
theorem infoT : (Tryz.prog.info? 46).map (fun i => (i.zero, i.size, i.bytes)) = some (some (.agg #[.int .i64 0, .string ⟨#[]⟩, .int .i64 0, .int .i64 0]), 4, 40) := by kernel_rfl
theorem below_growT {N : Nat} {w0 w w' : World} {v : Value} {es : List Tk} (hN : N ≤ w0.heap.size) (hb : Below N w0 w) (hown : OwnT w N v es) (hg : w.grownBy w' v.ownBlock) : Below N w0 w' :=
  hb.grown hg (Nat.le_trans hN hb.size) (fun k hk => (World.ownsRow.lt hown k hk).1)
theorem ownT_join {w : World} {base n m : Nat} {v : Value} {xs ys : List Tk} (hn : xs.length = n) (hm : ys.length = m) (h : w.ownsRow base 46 4 v (n + m) (tkCells xs ++ tkCells ys)) : OwnT w base v (xs ++ ys) := by
  subst hn hm
  unfold OwnT
  rw [← tkCells_append, List.length_append]
  exact h
/-- append(row, token), at a plain region's list. -/
theorem wpList_append_t (N : Nat) (w w0 : World) {ops : Array Oper} {rest : List Oper} {o : Oper} {act : Act} {Q : Exit → Act → World → Prop} (hgd : o.guard = none) (s x : Operand)
    (ho : o.op = .call { callee := .builtin .append, args := #[s, x], argTypes := #[22, 22] }) (v : Value) (es ys : List Tk) (hs : act.eval s = v) (hown : OwnT w N v es)
    (b oo m c' : Nat) (hx : act.eval x = .slice (some ⟨b, oo, none⟩) m c') (hm : ys.length = m) (hin : TksIn w (some ⟨b, oo, none⟩) ys) (hlen : (es.length + ys.length) * 40 ≤ 140737488355328) (hN : N ≤ w0.heap.size) (hb : Below N w0 w)
    (hK : ∀ v' w', OwnT w' N v' (es ++ ys) → Below N w0 w' → wpList Tryz.prog ops Q rest (act.put o.dst v') w') : wpList Tryz.prog ops Q (o :: rest) act w := by
  obtain ⟨i0, hi, hz0, hz1, hz2⟩ := info_parts infoT
  subst hm
  refine wpList_append_own w hgd s x 22 ho N 46 i0 (.agg #[.int .i64 0, .string ⟨#[]⟩, .int .i64 0, .int .i64 0]) 4 40 Tryz.underlying22 hi hz0 hz1 hz2 rfl (by decide) v es.length (tkCells es) hs hown ⟨b, oo, none⟩ ys.length c' (tkCells ys) hx (tkCells_len ys) (tkNews hin) (tkCells_one ys) (by unfold maxLen; omega) (by omega) (Nat.le_trans hN hb.size) ?_
  intro v' w' h1 h2 _
  exact hK v' w' (ownT_join rfl rfl h1) (below_growT hN hb hown h2)
/-- A row of the document's tokens that the call has made. -/
def OwnR (w : World) (base : Nat) (v : Value) (vs : List Tk) : Prop := w.ownsRow base 49 4 v vs.length (tkCells vs)
theorem OwnR.tks {w : World} {base : Nat} {v : Value} {vs : List Tk} (h : OwnR w base v vs) : ∃ a c, v = .slice a vs.length c ∧ TksIn w a vs ∧ (a = none → c = 0) ∧ (∀ b o x, a = some ⟨b, o, x⟩ → base ≤ b ∧ o = 0 ∧ x = none) := by
  rcases h.2 with ⟨rfl, h0⟩ | ⟨g, cap, cur, rfl, hb, hg, h1, h2, h3, h4⟩
  · refine ⟨none, 0, by rw [h0], fun i hi => by omega, fun _ => rfl, fun _ _ _ e => by cases e⟩
  · refine ⟨_, cap, rfl, fun i hi => ⟨g, 0, rfl, ?_⟩, fun hh => (by cases hh), fun b o x e => by cases e; exact ⟨hb, rfl, rfl⟩⟩
    obtain ⟨c0, c1, c2, c3⟩ := tkCells_at vs i hi
    have k0 := World.ownsRow.cells h (g := g) rfl _ _ c0
    have k1 := World.ownsRow.cells h (g := g) rfl _ _ c1
    have k2 := World.ownsRow.cells h (g := g) rfl _ _ c2
    have k3 := World.ownsRow.cells h (g := g) rfl _ _ c3
    rw [Addr.add_lit] at k0 k1 k2 k3
    exact ⟨k0, by rw [Nat.add_assoc]; exact k1, by rw [Nat.add_assoc]; exact k2, by rw [Nat.add_assoc]; exact k3⟩
theorem OwnR.on {w w' : World} {base : Nat} {v : Value} {xs : List Tk} (h : OwnR w base v xs) (hb : Below w.heap.size w w') : OwnR w' base v xs := by
  refine ⟨h.1, ?_⟩
  rcases h.2 with h1 | ⟨g, cap, cur, e, h1, h2, h3, h4, h5, h6⟩
  · exact .inl h1
  · have hlt : g < w.heap.size := by
      rcases Nat.lt_or_ge g w.heap.size with hl | hl
      · exact hl
      · rw [Array.getElem?_eq_none hl] at h2; cases h2
    exact .inr ⟨g, cap, cur, e, h1, (hb.block g hlt).trans h2, h3, h4, h5, h6⟩
theorem ownR_nil (w : World) (base : Nat) : OwnR w base (.slice none 0 0) [] := World.ownsRow_nil w base 49 4
theorem infoR : (Tryz.prog.info? 49).map (fun i => (i.zero, i.size, i.bytes)) = some (some (.agg #[.int .i64 0, .string ⟨#[]⟩, .int .i64 0, .int .i64 0]), 4, 40) := by kernel_rfl
theorem below_growR {N : Nat} {w0 w w' : World} {v : Value} {es : List Tk} (hN : N ≤ w0.heap.size) (hb : Below N w0 w) (hown : OwnR w N v es) (hg : w.grownBy w' v.ownBlock) : Below N w0 w' :=
  hb.grown hg (Nat.le_trans hN hb.size) (fun k hk => (World.ownsRow.lt hown k hk).1)
theorem ownR_join {w : World} {base n m : Nat} {v : Value} {xs ys : List Tk} (hn : xs.length = n) (hm : ys.length = m) (h : w.ownsRow base 49 4 v (n + m) (tkCells xs ++ tkCells ys)) : OwnR w base v (xs ++ ys) := by
  subst hn hm
  unfold OwnR
  rw [← tkCells_append, List.length_append]
  exact h
/-- append(row, token), at a plain region's list. -/
theorem wpList_append_r (N : Nat) (w w0 : World) {ops : Array Oper} {rest : List Oper} {o : Oper} {act : Act} {Q : Exit → Act → World → Prop} (hgd : o.guard = none) (s x : Operand)
    (ho : o.op = .call { callee := .builtin .append, args := #[s, x], argTypes := #[27, 27] }) (v : Value) (es ys : List Tk) (hs : act.eval s = v) (hown : OwnR w N v es)
    (b oo m c' : Nat) (hx : act.eval x = .slice (some ⟨b, oo, none⟩) m c') (hm : ys.length = m) (hin : TksIn w (some ⟨b, oo, none⟩) ys) (hlen : (es.length + ys.length) * 40 ≤ 140737488355328) (hN : N ≤ w0.heap.size) (hb : Below N w0 w)
    (hK : ∀ v' w', OwnR w' N v' (es ++ ys) → Below N w0 w' → wpList Tryz.prog ops Q rest (act.put o.dst v') w') : wpList Tryz.prog ops Q (o :: rest) act w := by
  obtain ⟨i0, hi, hz0, hz1, hz2⟩ := info_parts infoR
  subst hm
  refine wpList_append_own w hgd s x 27 ho N 49 i0 (.agg #[.int .i64 0, .string ⟨#[]⟩, .int .i64 0, .int .i64 0]) 4 40 Tryz.underlying27 hi hz0 hz1 hz2 rfl (by decide) v es.length (tkCells es) hs hown ⟨b, oo, none⟩ ys.length c' (tkCells ys) hx (tkCells_len ys) (tkNews hin) (tkCells_one ys) (by unfold maxLen; omega) (by omega) (Nat.le_trans hN hb.size) ?_
  intro v' w' h1 h2 _
  exact hK v' w' (ownR_join rfl rfl h1) (below_growR hN hb hown h2)
end Go.Proofs.YtfmpnakonffkcaaGreatDoor
