/- What regions of the document's journal take: two blocks that are written alone; what is handed back; append of a number to ends that nobody writes to. -/
import Derived.Test.YtjnhcanohefjiaaGreatDoorRjTie
import Derived.Test.YtjnhcanohefjiaaGreatDoorJCut
import Derived.ArgAppend
namespace Go.Proofs.YtjnhcanohefjiaaGreatDoor
open Go.RowKit Go.Sort Go.Maps

/-- All but two blocks stays. -/
def Two (b c : Nat) (w w' : World) : Prop := Ext (fun k => k = b ∨ k = c) (fun k => k = b ∨ k = c) w w'
theorem Two.put {b c k : Nat} {w V V' : World} {cs : Array Value} {t : TypeId} (h : Two b c w V) (hp : Put V k cs t V') (hk : k = b ∨ k = c) : Two b c w V' :=
  Ext.trans h ⟨hp.os, hp.tape, hp.output, by rw [hp.size]; exact Nat.le_refl _, fun i _ hn => hp.far i (fun e => hn (by rw [e]; exact hk)), fun _ h => .inl h⟩
theorem Two.refl (b c : Nat) (w : World) : Two b c w w := Ext.refl _ w
theorem Two.drew (b c : Nat) (w : World) : Two b c w w.drew := Ext.of_below _ (below_drew w)
theorem Two.on {b c : Nat} {w V V' : World} (h : Two b c w V) (hb : Below V.heap.size V V') : Two b c w V' := Ext.trans h (Ext.of_below _ hb)
theorem Two.at {b c k : Nat} {w V : World} {o : Obj} (h : Two b c w V) (hk : w.heap[k]? = some o) (h1 : k ≠ b) (h2 : k ≠ c) : V.heap[k]? = some o := (h.block k (blk_lt hk) (fun e => by rcases e with e | e; exact h1 e; exact h2 e)).trans hk
theorem Two.below {b c N : Nat} {w0 w V : World} (h : Two b c w V) (hb : Below N w0 w) (hN : N ≤ w.heap.size) (h1 : N ≤ b) (h2 : N ≤ c) : Below N w0 V :=
  ⟨h.os.trans hb.os, h.tape.trans hb.tape, h.output.trans hb.output, Nat.le_trans hb.size h.size, fun k hk => (h.block k (by omega) (fun e => by omega)).trans (hb.block k hk)⟩
theorem loadVar_rj {w : World} {b : Nat} {cs : Array Value} (h : w.heap[b]? = some (.cells cs 43 (0, 0))) (hc : cs.size = 9) : (loadVar 43 ⟨b, 0, none⟩).run Tryz.prog w = .ok (.agg cs) w :=
  run_loadVar_row w b 43 43 _ (0, 0) _ h Tryz.underlying43 rfl (by rw [hc]; exact infoJ9)
/-- A journal handed back, with a number. -/
theorem results_j {fn : Func} {p q : Tmp} (h : fn.results = #[.cell p 43, .tmp q]) (tmps : Array Value) (w : World) (b : Nat) (cs : Array Value) (v : Value) (hp : tmps.getD p undef = .pointer (some ⟨b, 0, none⟩)) (hq : tmps.getD q undef = v) (hb : w.heap[b]? = some (.cells cs 43 (0, 0))) (hc : cs.size = 9) :
    (results fn tmps).run Tryz.prog w = .ok (.tuple #[.agg cs, v]) w := by
  have hl := loadVar_rj hb hc
  simp only [results, h]
  rw [Array.getD_eq_getD_getElem?] at hp hq
  simp [Result.andThen, hp, hq, asAddr, hl]
/-- .. with a device, and a number. -/
theorem results_jd {fn : Func} {p r q : Tmp} (h : fn.results = #[.cell p 43, .cell r 33, .tmp q]) (tmps : Array Value) (w : World) (b c : Nat) (cs ds : Array Value) (v : Value) (hp : tmps.getD p undef = .pointer (some ⟨b, 0, none⟩)) (hr : tmps.getD r undef = .pointer (some ⟨c, 0, none⟩)) (hq : tmps.getD q undef = v) (hb : w.heap[b]? = some (.cells cs 43 (0, 0))) (hc : cs.size = 9) (hd : w.heap[c]? = some (.cells ds 33 (0, 0))) (hs : ds.size = 6) :
    (results fn tmps).run Tryz.prog w = .ok (.tuple #[.agg cs, .agg ds, v]) w := by
  have hl := loadVar_rj hb hc
  have hl2 := loadVar_rd hd hs
  simp only [results, h]
  rw [Array.getD_eq_getD_getElem?] at hp hq hr
  simp [Result.andThen, hp, hq, hr, asAddr, hl, hl2]
/-- .. with a device, what is told, and a number. -/
theorem results_jo {fn : Func} {p r q u : Tmp} (h : fn.results = #[.cell p 43, .cell r 33, .tmp q, .tmp u]) (tmps : Array Value) (w : World) (b c : Nat) (cs ds : Array Value) (v v2 : Value) (hp : tmps.getD p undef = .pointer (some ⟨b, 0, none⟩)) (hr : tmps.getD r undef = .pointer (some ⟨c, 0, none⟩)) (hq : tmps.getD q undef = v) (hu : tmps.getD u undef = v2) (hb : w.heap[b]? = some (.cells cs 43 (0, 0))) (hc : cs.size = 9) (hd : w.heap[c]? = some (.cells ds 33 (0, 0))) (hs : ds.size = 6) :
    (results fn tmps).run Tryz.prog w = .ok (.tuple #[.agg cs, .agg ds, v, v2]) w := by
  have hl := loadVar_rj hb hc
  have hl2 := loadVar_rd hd hs
  simp only [results, h]
  rw [Array.getD_eq_getD_getElem?] at hp hq hr hu
  simp [Result.andThen, hp, hq, hr, hu, asAddr, hl, hl2]
/-- The document's ends, in a slice with its room. -/
structure EdF (w : World) (M : Nat → Prop) (ea : Option Addr) (ec : Nat) (es : List Nat) : Prop where
  ends : EndsF w M ea es
  cap : es.length ≤ ec
theorem EdF.on {w w' : World} {M : Nat → Prop} {ea : Option Addr} {ec : Nat} {es : List Nat} (h : EdF w M ea ec es) (hb : Below w.heap.size w w') : EdF w' M ea ec es := ⟨h.ends.on hb, h.cap⟩
theorem EdF.ext {w w' : World} {M M' : Nat → Prop} {ea : Option Addr} {ec : Nat} {es : List Nat} (h : EdF w M ea ec es) (he : Ext M M' w w') : EdF w' M' ea ec es := ⟨h.ends.ext he, h.cap⟩
theorem edF_nil (w : World) (M : Nat → Prop) (ea : Option Addr) (ec : Nat) : EdF w M ea ec [] := ⟨endsF_nil w M ea, Nat.zero_le _⟩
theorem edF_own {w : World} {M : Nat → Prop} {base : Nat} {v : Value} {es : List Nat} (h : OwnI w base v es) (hM : ∀ k, M k → k < base) : ∃ ea ec, v = .slice ea es.length ec ∧ EdF w M ea ec es := by
  obtain ⟨ea, ec, h1, h2⟩ := endsF_own h hM
  refine ⟨ea, ec, h1, h2, ?_⟩
  obtain ⟨a, c, h3, h4⟩ := OwnI.shape h
  rw [h1] at h3
  injection h3 with e1 e2 e3
  omega
theorem EndsF.put {w w' : World} {M : Nat → Prop} {ea : Option Addr} {es : List Nat} {b : Nat} {cs : Array Value} {t : TypeId} (h : EndsF w M ea es) (hp : Put w b cs t w') (hne : ∀ g o, ea = some ⟨g, o, none⟩ → g ≠ b) : EndsF w' M ea es := fun i hi => by
  obtain ⟨g, o, e, h1, h2⟩ := h i hi
  refine ⟨g, o, e, ?_, h2⟩
  have := hp.far g (hne g o e)
  rw [← h1]
  simp [World.cell?, this]
/-- ends[:n:n]. -/
theorem slice_hm {w : World} {M : Nat → Prop} {ea : Option Addr} {ec : Nat} {es : List Nat} (h : EdF w M ea ec es) (en n : Nat) (hn : n ≤ es.length) (V : World) : (Instr.sliceAt 41 (.slice ea en ec) none (some (.int .i64 (n : Int))) (some (.int .i64 (n : Int)))).run Tryz.prog V = .ok (.slice ea n n) V := by
  have he : Tryz.prog.elem 41 = 3 := by simp [Program.elem, Tryz.underlying41]
  have hc := h.cap
  rw [run_sliceAt_slice V 41 _ _ _ _ (by rw [he]; exact Tryz.underlying41), run_slice_hm V 41 ea en ec (by rw [he]; exact Tryz.underlying41) .i64 .i64 (n : Int) (n : Int) (by omega) (by omega) (by omega), he, size1I]
  simp only [Result.andThen, sliced, Int.toNat_natCast, Nat.sub_zero, Nat.zero_mul]
  by_cases h0 : n = 0
  · rw [if_pos h0]
  · rw [if_neg h0]
    obtain ⟨b, o, e, _⟩ := h.ends 0 (by omega)
    rw [e]
    simp [Addr.add]
theorem yields_slice_hm {S : World → Prop} {ops : Array Oper} {o : Oper} {a : Act} (hw : Region.wanted o (yielded ops a.tmps) = true) (t : TypeId) (x y z : Operand) (ho : o.op = .slice t x none (some y) (some z)) (xv yv zv v : Value) (hx : a.eval x = xv) (hy : a.eval y = yv) (hz : a.eval z = zv)
    (hr : ∀ w, (Instr.sliceAt t xv none (some yv) (some zv)).run Tryz.prog w = .ok v w) : YieldsIf Tryz.prog ops S o v a :=
  .inl ⟨hw, fun w _ => by
    unfold execOp
    simp only [ho, hx, hy, hz, Option.map_some, Option.map_none, hr w, Sem.run_bind, Sem.run_pure, Result.andThen_ok]⟩
/-- append of a number to ends that have no room, at a step of a region that draws its order. -/
theorem step_append_intN (w : World) {ops : Array Oper} {o : Oper} {act : Act} {K : Act → World → Prop} {Q : Exit → Act → World → Prop} {E : Prop} (hgd : o.guard = none) (s x : Operand)
    (ho : o.op = .call { callee := .builtin .append, args := #[s, x], argTypes := #[41, 41] }) (M : Nat → Prop) (ea : Option Addr) (n : Nat) (es : List Nat) (u : Nat) (hn : es.length = n) (hs : act.eval s = .slice ea n n) (he : EndsF w M ea es)
    (g : Nat) (hx : act.eval x = .slice (some ⟨g, 0, none⟩) 1 1) (hc : w.cell? ⟨g, 0, none⟩ = some (.int .i64 (u : Int))) (hb : n ≤ 10000000)
    (hK : ∀ a' c' w', OwnI w' w.heap.size (.slice a' (n + 1) c') (es ++ [u]) → Below w.heap.size w w' → K (act.put o.dst (.slice a' (n + 1) c')) w') : if Region.wanted o (yielded ops act.tmps) = true then Oper.wp Tryz.prog o act w K Q else E := by
  have hw : Region.wanted o (yielded ops act.tmps) = true := by simp [Region.wanted, hgd]
  rw [if_pos hw]
  obtain ⟨i0, hi, hz0, hz1, hz2⟩ := info_parts infoI
  have hcc : ∀ j u', ([.int .i64 (u : Int)] : List Value)[j]? = some u' → w.cell? ((⟨g, 0, none⟩ : Addr).add j) = some u' := fun j u' hj => by
    match j, hj with
    | 0, hj => cases hj; rw [Addr.add_lit, Nat.add_zero]; exact hc
  have h1c : ∀ y ∈ ([.int .i64 (u : Int)] : List Value), y.oneCell' = true := fun y hy => by simp at hy; rw [hy]; rfl
  have fin : ∀ v' w', w'.ownsRow w.heap.size 3 1 v' (n + 1) (valsI es ++ [.int .i64 (u : Int)]) → w.grownBy w' none → K (act.put o.dst v') w' := fun v' w' r1 r2 => by
    have h2' : OwnI w' w.heap.size v' (es ++ [u]) := by
      unfold OwnI valsI
      rw [List.length_append, List.map_append, hn]
      exact r1
    obtain ⟨a', c', hv, _⟩ := OwnI.shape h2'
    have hl : (es ++ [u]).length = n + 1 := by rw [List.length_append, hn]; rfl
    rw [hl] at hv
    subst hv
    exact hK _ _ w' h2' (below_grown_none r2)
  cases ea with
  | some b =>
    obtain ⟨v', w', hrun, r1, r2⟩ := run_append_arg_grows (P := Tryz.prog) w 41 o.type 3 i0 (.int .i64 0) 1 8 Tryz.underlying41 hi hz0 hz1 hz2 rfl (by decide) b n n (valsI es) (by simp [valsI]; omega) (he.news b rfl) ⟨g, 0, none⟩ 1 1 [.int .i64 (u : Int)] rfl hcc (by omega) (by unfold maxLen; omega) (by omega)
    unfold Oper.wp execOp
    simp only [ho, resolve, invoke, builtin, Sem.run_bind, Sem.run_pure, Result.andThen_ok, List.map_toArray, List.map_cons, List.map_nil, hs, hx, hrun]
    exact fin v' w' r1 r2
  | none =>
    have h0 : es = [] := by
      cases es with
      | nil => rfl
      | cons y r => obtain ⟨b, o, e, _⟩ := he 0 (by simp); cases e
    subst h0
    obtain rfl : n = 0 := hn.symm
    obtain ⟨v', w', hrun, r1, r2, _⟩ := run_append_own (P := Tryz.prog) w w.heap.size 41 o.type 3 i0 (.int .i64 0) 1 8 Tryz.underlying41 hi hz0 hz1 hz2 rfl (by decide) (.slice none 0 0) 0 [] (World.ownsRow_nil w _ 3 1) ⟨g, 0, none⟩ 1 1 [.int .i64 (u : Int)] rfl hcc h1c (by unfold maxLen; omega) (by omega) (Nat.le_refl _)
    unfold Oper.wp execOp
    simp only [ho, resolve, invoke, builtin, Sem.run_bind, Sem.run_pure, Result.andThen_ok, List.map_toArray, List.map_cons, List.map_nil, hs, hx, hrun]
    exact fin v' w' r1 r2
end Go.Proofs.YtjnhcanohefjiaaGreatDoor
