/- The walks of lex's told, same, Same and Print. -/
import Derived.Test.YtfmpnakonffkcaaGreatDoorLxToks
import Derived.Test.YtfmpnakonffkcaaGreatDoorLxPrn
namespace Go.Proofs.YtfmpnakonffkcaaGreatDoor
open Go.RowKit Go.Sort

theorem ba_ext {s t : ByteArray} (h : s.data.toList = t.data.toList) : s = t := lst_inj h
theorem ba_append (a b : ByteArray) : (a ++ b).data.toList = a.data.toList ++ b.data.toList := by simp
def strVals (ts : List (List UInt8)) : List Value := ts.map fun t => .string ⟨t.toArray⟩
theorem strVals_len (ts : List (List UInt8)) : (strVals ts).length = ts.length := by simp [strVals]
theorem strVals_append (a b : List (List UInt8)) : strVals a ++ strVals b = strVals (a ++ b) := by simp [strVals]
theorem strVals_one (ts : List (List UInt8)) : ∀ u ∈ strVals ts, u.oneCell' = true := by
  intro u hu
  obtain ⟨x, _, rfl⟩ := List.mem_map.1 hu
  rfl
/-- A row of texts that the call has made. -/
def OwnS (w : World) (base : Nat) (v : Value) (ts : List (List UInt8)) : Prop := w.ownsRow base 9 1 v ts.length (strVals ts)
theorem OwnS.on {w w' : World} {base : Nat} {v : Value} {xs : List (List UInt8)} (h : OwnS w base v xs) (hb : Below w.heap.size w w') : OwnS w' base v xs := by
  refine ⟨h.1, ?_⟩
  rcases h.2 with h1 | ⟨g, cap, cur, e, h1, h2, h3, h4, h5, h6⟩
  · exact .inl h1
  · have hlt : g < w.heap.size := by
      rcases Nat.lt_or_ge g w.heap.size with hl | hl
      · exact hl
      · rw [Array.getElem?_eq_none hl] at h2; cases h2
    exact .inr ⟨g, cap, cur, e, h1, (hb.block g hlt).trans h2, h3, h4, h5, h6⟩
theorem ownS_nil (w : World) (base : Nat) : OwnS w base (.slice none 0 0) [] := World.ownsRow_nil w base 9 1
theorem info9 : (Tryz.prog.info? 9).map (fun i => (i.zero, i.size, i.bytes)) = some (some (.string ⟨#[]⟩), 1, 16) := by kernel_rfl
theorem OwnS.some {w : World} {base : Nat} {v : Value} {ts : List (List UInt8)} (h : OwnS w base v ts) (hp : 0 < ts.length) : ∃ g c, v = .slice (some ⟨g, 0, none⟩) ts.length c ∧ ts.length ≤ c ∧ g < w.heap.size ∧ ∀ (j : Nat) x, (ts.map fun t => (⟨t.toArray⟩ : ByteArray))[j]? = some x → w.cell? ⟨g, 0 + j, none⟩ = some (.string x) := by
  rcases h.2 with ⟨rfl, e⟩ | ⟨g, cap, cur, rfl, h1, h2, h3, h4, h5, h6⟩
  · omega
  · refine ⟨g, cap, rfl, h3, (Array.getElem?_eq_some_iff.1 h2).1, fun j x hj => ?_⟩
    obtain ⟨hlt, e⟩ := List.getElem?_eq_some_iff.1 hj
    rw [List.length_map] at hlt
    have := World.ownsRow.cellAt h j (by omega)
    rw [Nat.zero_add, this]
    simp [strVals, List.getElem?_eq_getElem hlt]
    simpa using e
/-- append(row, text). -/
theorem wpList_append_lit (N : Nat) (w w0 : World) {ops : Array Oper} {rest : List Oper} {o : Oper} {act : Act} {Q : Exit → Act → World → Prop} (hgd : o.guard = none) (s x : Operand)
    (ho : o.op = .call { callee := .builtin .append, args := #[s, x], argTypes := #[54, 54] }) (v : Value) (es : List (List UInt8)) (hs : act.eval s = v) (hown : OwnS w N v es)
    (B : Nat) (p : List UInt8) (hx : act.eval x = .slice (some ⟨B, 0, none⟩) 1 1) (hin : w.cell? ⟨B, 0, none⟩ = some (.string ⟨p.toArray⟩)) (hlen : (es.length + 1) * 16 ≤ 140737488355328) (hN : N ≤ w0.heap.size) (hb : Below N w0 w)
    (hK : ∀ v' w', OwnS w' N v' (es ++ [p]) → Below N w0 w' → wpList Tryz.prog ops Q rest (act.put o.dst v') w') : wpList Tryz.prog ops Q (o :: rest) act w := by
  obtain ⟨i0, hi, hz0, hz1, hz2⟩ := info_parts info9
  have hnews : ∀ j u, (strVals [p])[j]? = some u → w.cell? ((⟨B, 0, none⟩ : Addr).add j) = some u := by
    intro j u hj
    cases j with
    | zero => simp [strVals] at hj; subst hj; rw [Addr.add_lit]; exact hin
    | succ j => simp [strVals] at hj
  refine wpList_append_own w hgd s x 54 ho N 9 i0 (.string ⟨#[]⟩) 1 16 Tryz.underlying54 hi hz0 hz1 hz2 rfl (by decide) v es.length (strVals es) hs hown ⟨B, 0, none⟩ 1 1 (strVals [p]) hx (by simp [strVals]) hnews (strVals_one _) (by unfold maxLen; omega) (by omega) (Nat.le_trans hN hb.size) ?_
  intro v' w' h1 h2 _
  refine hK v' w' ?_ (hb.grown h2 (Nat.le_trans hN hb.size) (fun k hk => (World.ownsRow.lt hown k hk).1))
  unfold OwnS
  rw [← strVals_append, List.length_append]
  exact h1

/-! ### A token's text -/
theorem quoted_ba (l : List UInt8) : (⟨#[39]⟩ ++ ofL l ++ ⟨#[39]⟩ : ByteArray) = ofL (39 :: (l ++ [39])) := by
  apply ba_ext
  rw [ba_append, ba_append]
  simp [ofL]
theorem toldL_tx {t : Tk} (h : t.k = 1 ∨ t.k = 4) : ofL (toldL t) = t.tx := by rw [toldL, if_pos h, ofL_lst]
set_option maxRecDepth 100000 in
set_option maxHeartbeats 4000000 in
theorem told_ (k : Int) (tx : ByteArray) (n p : Int) (w : World) (hn : inI n) (hs : tx.size ≤ 1000000000) (hE : Env w) :
    Calls Tryz.prog 21 #[.agg #[.int .i64 k, .string tx, .int .i64 n, .int .i64 p]] w fun e w' => e = .returned (.string (ofL (toldL ⟨k, tx, n, p⟩))) ∧ Below w.heap.size w w' := by
  obtain ⟨W1, hW1⟩ : ∃ W1, w.alloc (.cells #[.int .i64 k, .string tx, .int .i64 n, .int .i64 p] 46) = W1 := ⟨_, rfl⟩
  have hb1 : Below w.heap.size w W1 := by rw [← hW1]; exact below_alloc1 _ _
  have hIn : InT W1 w.heap.size 0 ⟨k, tx, n, p⟩ := by rw [← hW1]; exact inT_new w ⟨k, tx, n, p⟩ _
  have HI : Hid (Calls Tryz.prog 45 #[.int .i64 n] W1 fun e w' => e = .returned (.string (ofL (Lib.itoa n))) ∧ Below W1.heap.size W1 w') := itoa_ n W1 hn (hE.on hb1)
  have HDb : Hid (Calls Tryz.prog 46 #[.string tx, .string ⟨#[39]⟩, .string ⟨#[39, 39]⟩] W1 fun e w' => e = .returned (.string (ofL (dbl (lst tx)))) ∧ Below W1.heap.size W1 w') := doubled_ tx W1 hs (hE.on hb1)
  have HW := Lib.hid (And.intro hW1 hb1)
  clear hW1 hb1 hE hIn
  by_cases h1 : k = 1
  · subst h1
    rw [toldL_tx (.inl rfl)]
    clear HI HDb
    go_enter Tryz.func21, Tryz.ntmps21
    go_wp2_with fail
    go_ret
    exact ⟨rfl, below_alloc1 _ _⟩
  by_cases h4 : k = 4
  · subst h4
    rw [toldL_tx (.inr rfl)]
    clear HI HDb
    go_enter Tryz.func21, Tryz.ntmps21
    go_wp2_with fail
    go_ret
    exact ⟨rfl, below_alloc1 _ _⟩
  have b1 : (k == 1) = false := beq_eq_false_iff_ne.2 h1
  have b4 : (k == 4) = false := beq_eq_false_iff_ne.2 h4
  by_cases h2 : k = 2
  · subst h2
    have e : toldL ⟨2, tx, n, p⟩ = Lib.itoa n := rfl
    rw [e]
    clear HDb e
    go_enter Tryz.func21, Tryz.ntmps21
    go_wp2_with fail
    rw [HW.out.1]
    refine HI.out.mono ?_
    rintro e w2 ⟨rfl, hb2⟩
    have HB := Lib.hid (below_step HW.out.2 hb2)
    clear hb2 HI
    go_wp2_with fail
    go_ret
    exact ⟨rfl, HB.out⟩
  have b2 : (k == 2) = false := beq_eq_false_iff_ne.2 h2
  by_cases h3 : k = 3
  · subst h3
    have e : toldL ⟨3, tx, n, p⟩ = 39 :: (dbl (lst tx) ++ [39]) := rfl
    rw [e, ← quoted_ba]
    have hD : (ofL (dbl (lst tx))).size ≤ 2000000000 := by
      have := dbl_len (lst tx)
      rw [size_lst, lst_ofL]; rw [size_lst] at hs; omega
    clear HI e
    generalize ofL (dbl (lst tx)) = D at *
    go_enter Tryz.func21, Tryz.ntmps21
    go_wp2_with fail
    rw [HW.out.1]
    refine HDb.out.mono ?_
    rintro e w2 ⟨rfl, hb2⟩
    have HB := Lib.hid (below_step HW.out.2 hb2)
    clear hb2 HDb
    go_wp2_with fail
    go_ret
    exact ⟨rfl, HB.out⟩
  have b3 : (k == 3) = false := beq_eq_false_iff_ne.2 h3
  have e : toldL ⟨k, tx, n, p⟩ = [] := by
    unfold toldL
    exact (if_neg (fun h => h.elim h1 h4)).trans ((if_neg h2).trans (if_neg h3))
  rw [e]
  clear HI HDb e
  go_enter Tryz.func21, Tryz.ntmps21
  go_wp2_with fail
  go_ret
  exact ⟨rfl, below_alloc1 _ _⟩

/-! ### Two tokens but for their places -/
def sameB (a b : Tk) : Bool := a.k == b.k && (a.tx.toList == b.tx.toList && a.n == b.n)
theorem sameB_iff {a b : Tk} : sameB a b = true ↔ a.at0 = b.at0 := by
  unfold sameB Tk.at0
  simp only [Bool.and_eq_true, beq_iff_eq, Tk.mk.injEq, toList_lst, and_true]
  constructor
  · rintro ⟨a, b, c⟩; exact ⟨a, lst_inj b, c⟩
  · rintro ⟨a, b, c⟩; exact ⟨a, by rw [b], c⟩
set_option maxRecDepth 100000 in
set_option maxHeartbeats 4000000 in
theorem same1_ (a b : Tk) (w : World) : Calls Tryz.prog 22 #[agT a, agT b] w fun e w' => e = .returned (.bool (sameB a b)) ∧ Below w.heap.size w w' := by
  obtain ⟨k, tx, n, p⟩ := a
  obtain ⟨k', tx', n', p'⟩ := b
  have hGD := guardT
  have hEQ : ∀ W, (Op.equalIn 10000 46 (.agg #[.int .i64 k, .string tx, .int .i64 n, .int .i64 p']) (.agg #[.int .i64 k', .string tx', .int .i64 n', .int .i64 p'])).run Tryz.prog W = .ok (sameB ⟨k, tx, n, p⟩ ⟨k', tx', n', p'⟩) W := fun W => by
    rw [eqT_, sameT, sameB]; simp
  generalize sameB ⟨k, tx, n, p⟩ ⟨k', tx', n', p'⟩ = R at *
  unfold agT
  go_enter Tryz.func22, Tryz.ntmps22
  go_wp2_with fail
  go_ret
  refine ⟨rfl, ?_⟩
  exact below_step (below_alloc1 _ _) (below_alloc1 _ _)
end Go.Proofs.YtfmpnakonffkcaaGreatDoor
