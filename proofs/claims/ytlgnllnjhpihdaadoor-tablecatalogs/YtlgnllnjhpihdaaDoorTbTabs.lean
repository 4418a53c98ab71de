/- Rows of tables in memory; a catalog; Len, placeOf, Find. -/
import Derived.Test.YtlgnllnjhpihdaaDoorTbTwin
import Derived.Test.YtlgnllnjhpihdaaDoorTbIdx
namespace Go.Proofs.YtlgnllnjhpihdaaDoor
open Go.RowKit Go.Sort

/-- A row's block that may be written. -/
def Free (w : World) (a : Option Addr) : Prop := ∀ b o, a = some ⟨b, o, none⟩ → b < w.heap.size ∧ ∀ p, w.frozen? ⟨b, p, none⟩ = false
theorem Free.on {w w' : World} {a : Option Addr} (h : Free w a) (hb : Below w.heap.size w w') : Free w' a := fun b o e =>
  ⟨Nat.lt_of_lt_of_le (h b o e).1 hb.size, fun p => Frz.on ((h b o e).2 p) (h b o e).1 hb⟩
theorem Free.set {w : World} {a : Option Addr} (h : Free w a) (p : Addr) (u : Value) : Free (w.setCell p u) a := fun b o e => by
  have hb : Below 0 w (w.setCell p u) := ((Below.refl _ _).setCell (Nat.zero_le _) _)
  exact ⟨Nat.lt_of_lt_of_le (h b o e).1 hb.size, fun q => by rw [World.frozen?_setCell]; exact (h b o e).2 q⟩
theorem OwnC.free {w : World} {N : Nat} {a : Option Addr} {n c : Nat} {vs : List Col} (h : OwnC w N (.slice a n c) vs) : Free w a := fun b o e => by
  rcases h.2 with ⟨e2, _⟩ | ⟨g, cap, cur, e2, h1, h2, _⟩
  · simp only [Value.slice.injEq] at e2
    rw [e2.1] at e; cases e
  · simp only [Value.slice.injEq] at e2
    rw [e2.1] at e
    simp only [Option.some.injEq, Addr.mk.injEq] at e
    obtain ⟨rfl, _⟩ := e
    exact ⟨(Array.getElem?_eq_some_iff.1 h2).1, fun p => by unfold World.frozen?; rw [h2]; simp⟩
/-- A table's twin, whose columns may be written. -/
def TwinF (w : World) (nm : ByteArray) (cs : List Col) (L : Nat) (e : Ending) (w' : World) : Prop :=
  ∃ a c, e = .returned (.agg #[.string nm, .slice a L c]) ∧ (ColsIn w' a cs ∧ L ≤ c ∧ (a = none → c = 0) ∧ (∀ b o, a = some ⟨b, o, none⟩ → w.heap.size ≤ b) ∧ Free w' a) ∧ Below w.heap.size w w'
/-- A table as it lies in a row: its name, its columns' slice, its columns. -/
structure TV where
  nm : ByteArray
  a : Option Addr
  c : Nat
  cs : List Col
def TV.val (t : TV) : Value := .slice t.a t.cs.length t.c
def TV.tab (t : TV) : Tab := ⟨t.nm, t.cs⟩
/-- Tables behind a slice: their names, their columns' slices. -/
def TabsIn (w : World) (a : Option Addr) (ts : List TV) : Prop :=
  ∀ i (h : i < ts.length), ∃ b o, a = some ⟨b, o, none⟩ ∧ w.cell? ⟨b, o + i * 2, none⟩ = some (.string ts[i].nm) ∧ w.cell? ⟨b, o + i * 2 + 1, none⟩ = some (.slice ts[i].a ts[i].cs.length ts[i].c)
theorem TabsIn.on {w w' : World} {a : Option Addr} {ts : List TV} (h : TabsIn w a ts) (hb : Below w.heap.size w w') : TabsIn w' a ts := by
  intro i hi
  obtain ⟨b, o, e, h0, h1⟩ := h i hi
  exact ⟨b, o, e, (hb.cell (block_lt_of_cell h0)).trans h0, (hb.cell (block_lt_of_cell h1)).trans h1⟩
theorem tabsIn_nil (w : World) (a : Option Addr) : TabsIn w a [] := fun i hi => by simp at hi
/-- Each one's columns. -/
def ColsAll (w : World) (ts : List TV) : Prop := ∀ i (h : i < ts.length), ColsIn w ts[i].a ts[i].cs ∧ ts[i].cs.length ≤ ts[i].c ∧ (ts[i].a = none → ts[i].c = 0)
theorem ColsAll.on {w w' : World} {ts : List TV} (h : ColsAll w ts) (hb : Below w.heap.size w w') : ColsAll w' ts := fun i hi => ⟨(h i hi).1.on hb, (h i hi).2⟩
def tvCells : List TV → List Value
  | [] => []
  | t :: r => .string t.nm :: .slice t.a t.cs.length t.c :: tvCells r
theorem tvCells_len : ∀ ts, (tvCells ts).length = ts.length * 2
  | [] => rfl
  | t :: r => by simp only [tvCells, List.length_cons, tvCells_len r]; omega
theorem tvCells_append : ∀ a b, tvCells a ++ tvCells b = tvCells (a ++ b)
  | [], _ => rfl
  | x :: r, b => by simp only [tvCells, List.cons_append, tvCells_append r b]
theorem tvCells_at : ∀ (ts : List TV) (i : Nat) (h : i < ts.length), (tvCells ts)[i * 2]? = some (.string ts[i].nm) ∧ (tvCells ts)[i * 2 + 1]? = some (.slice ts[i].a ts[i].cs.length ts[i].c)
  | [], i, h => by simp at h
  | t :: r, 0, _ => ⟨rfl, rfl⟩
  | t :: r, i + 1, h => by
    obtain ⟨h0, h1⟩ := tvCells_at r i (by simpa using h)
    refine ⟨?_, ?_⟩
    · rw [show (i + 1) * 2 = i * 2 + 2 by omega]; simp only [tvCells, List.getElem?_cons_succ, List.getElem_cons_succ]; exact h0
    · rw [show (i + 1) * 2 + 1 = i * 2 + 1 + 2 by omega]; simp only [tvCells, List.getElem?_cons_succ, List.getElem_cons_succ]; exact h1
theorem tvCells_one : ∀ (ts : List TV), ∀ u ∈ tvCells ts, u.oneCell' = true
  | [], u, h => by simp [tvCells] at h
  | t :: r, u, h => by
    simp only [tvCells, List.mem_cons] at h
    rcases h with rfl | rfl | h
    · rfl
    · rfl
    · exact tvCells_one r u h
/-- A row of tables that the call has made. -/
def OwnTV (w : World) (base : Nat) (v : Value) (ts : List TV) : Prop := w.ownsRow base 24 2 v ts.length (tvCells ts)
theorem OwnTV.on {w w' : World} {base : Nat} {v : Value} {ts : List TV} (h : OwnTV w base v ts) (hb : Below w.heap.size w w') : OwnTV w' base v ts := by
  refine ⟨h.1, ?_⟩
  rcases h.2 with h1 | ⟨g, cap, cur, e, h1, h2, h3, h4, h5, h6⟩
  · exact .inl h1
  · exact .inr ⟨g, cap, cur, e, h1, (hb.block g (Array.getElem?_eq_some_iff.1 h2).1).trans h2, h3, h4, h5, h6⟩
theorem ownTV_nil (w : World) (base : Nat) : OwnTV w base (.slice none 0 0) [] := World.ownsRow_nil w base 24 2
theorem OwnTV.tabs {w : World} {base : Nat} {v : Value} {ts : List TV} (h : OwnTV w base v ts) : ∃ a c, v = .slice a ts.length c ∧ TabsIn w a ts ∧ ts.length ≤ c ∧ (a = none → c = 0) ∧ ∀ b o, a = some ⟨b, o, none⟩ → base ≤ b ∧ b < w.heap.size := by
  rcases h.2 with ⟨rfl, h0⟩ | ⟨g, cap, cur, rfl, hb, hg, h1, h2, h3, h4⟩
  · exact ⟨none, 0, by rw [h0], fun i hi => by omega, by omega, fun _ => rfl, (fun b o e => (by cases e))⟩
  · refine ⟨_, cap, rfl, fun i hi => ⟨g, 0, rfl, ?_⟩, h1, (fun hh => (by cases hh)), fun b o e => ?_⟩
    · obtain ⟨c0, c1⟩ := tvCells_at ts i hi
      have k0 := World.ownsRow.cells h (g := g) rfl _ _ c0
      have k1 := World.ownsRow.cells h (g := g) rfl _ _ c1
      rw [Addr.add_lit] at k0 k1
      exact ⟨k0, by rw [Nat.add_assoc]; exact k1⟩
    · simp only [Option.some.injEq, Addr.mk.injEq] at e
      obtain ⟨rfl, _⟩ := e
      exact ⟨hb, (Array.getElem?_eq_some_iff.1 hg).1⟩
theorem infoT : (Tryd.prog.info? 24).map (fun i => (i.zero, i.size, i.bytes)) = some (some (.agg #[.string ⟨#[]⟩, .slice none 0 0]), 2, 40) := by kernel_rfl
/-- append(row, a table), as a run. -/
theorem app_tab {w : World} {base : Nat} {v : Value} {es : List TV} (hown : OwnTV w base v es) (t : TypeId) {B : Nat} {x : TV} (h0 : w.cell? ⟨B, 0, none⟩ = some (.string x.nm)) (h1 : w.cell? ⟨B, 1, none⟩ = some (.slice x.a x.cs.length x.c)) (hlen : (es.length + 1) * 40 ≤ 140737488355328) (hbase : base ≤ w.heap.size) :
    ∃ a n c w', (Builtin.append_ #[47, 47] t #[v, .slice (some ⟨B, 0, none⟩) 1 1]).run Tryd.prog w = .ok (.slice a n c) w' ∧ OwnTV w' base (.slice a n c) (es ++ [x]) ∧ w.grownBy w' v.ownBlock := by
  obtain ⟨i0, hi, hz0, hz1, hz2⟩ := info_parts infoT
  have hnews : ∀ j u, (tvCells [x])[j]? = some u → w.cell? ((⟨B, 0, none⟩ : Addr).add j) = some u := by
    intro j u hj
    rw [Addr.add_lit]
    rcases j with _ | _ | j
    · simp [tvCells] at hj; subst hj; exact h0
    · simp [tvCells] at hj; subst hj; exact h1
    · simp [tvCells] at hj
  obtain ⟨v', w', hr, h2, h3, _, h5⟩ := run_append_own_at (P := Tryd.prog) w base 47 t 24 i0 (.agg #[.string ⟨#[]⟩, .slice none 0 0]) 2 40 Tryd.underlying47 hi hz0 hz1 hz2 rfl (by decide) v es.length (tvCells es) hown ⟨B, 0, none⟩ 1 1 (tvCells [x]) (tvCells_len [x]) hnews (tvCells_one [x]) (by unfold maxLen; omega) (by omega) hbase
  have ho : OwnTV w' base v' (es ++ [x]) := by
    unfold OwnTV
    rw [← tvCells_append, List.length_append]
    exact h2
  obtain ⟨a, c, rfl, _⟩ := ho.tabs
  exact ⟨a, _, c, w', hr, ho, h3⟩
theorem run_buildT (w : World) (nm : ByteArray) (a : Option Addr) (n c : Nat) (ac : Act) (o : Oper) (y : Operand) (h : o.op = .buildSlice 47 1 #[(0, y)]) (hy : ac.eval y = .agg #[.string nm, .slice a n c]) : (execOp ac.eval o).run Tryd.prog w = .ok (.value (.slice (some ⟨w.heap.size, 0, none⟩) 1 1)) (w.alloc (.cells #[.string nm, .slice a n c] 24)) := by
  unfold execOp
  simp only [h, List.map_toArray, List.map_cons, List.map_nil, hy]
  simp [Instr.buildSlice, go_sem]
theorem store_tab {w : World} {B : Nat} {nm : ByteArray} {lv x y : Value} (h : TbB w B nm lv) (h1 : x.oneCell' = true) (h2 : y.oneCell' = true) : (Instr.storeAt 24 (.pointer (some ⟨B, 0, none⟩)) (.agg #[x, y])).run Tryd.prog w = .ok () ((w.setCell ⟨B, 0, none⟩ x).setCell ⟨B, 1, none⟩ y) := by
  obtain ⟨c1, c2, f1, f2⟩ := h
  have hs : (sizeOf 24).run Tryd.prog w = .ok 2 w := by kernel_rfl
  have c3 : (w.setCell ⟨B, 0, none⟩ x).cell? ⟨B, 1, none⟩ = some lv := by rw [World.cell?_setCell_other _ _ _ _ (fun e => by have := (Addr.mk.inj e).2.1; omega)]; exact c2
  have f3 : (w.setCell ⟨B, 0, none⟩ x).frozen? ⟨B, 1, none⟩ = false := by
    have := World.frozen?_setCells B [x] 0 w ⟨B, 1, none⟩
    simp only [World.setCells] at this
    rw [this]; exact f2
  simp only [Instr.storeAt, Instr.sureAddr, Sem.run_bind, Sem.run_pure, Result.andThen]
  simp [storeVar, hs, Value.cells, Result.andThen, storeCells, run_store _ _ _ _ _ h1, run_store _ _ _ _ _ h2, Addr.add_lit, c1, f1, c3, f3]
/-! ### A catalog -/
/-- A catalog in memory: its row of tables, their columns; all its blocks are N or behind. -/
structure CatIn (w : World) (N BC : Nat) (ts : List TV) : Prop where
  len : ts.length ≤ 32
  at_ : N ≤ BC
  row : ∃ a c, w.cell? ⟨BC, 0, none⟩ = some (.slice a ts.length c) ∧ TabsIn w a ts ∧ ∀ b o, a = some ⟨b, o, none⟩ → N ≤ b
  cols : ColsAll w ts
  far : ∀ i (h : i < ts.length), ∀ b o, ts[i].a = some ⟨b, o, none⟩ → N ≤ b
theorem CatIn.on {w w' : World} {N BC : Nat} {ts : List TV} (h : CatIn w N BC ts) (hb : Below w.heap.size w w') : CatIn w' N BC ts := by
  obtain ⟨a, c, h1, h2, h3⟩ := h.row
  exact ⟨h.len, h.at_, ⟨a, c, (hb.cell (block_lt_of_cell h1)).trans h1, h2.on hb, h3⟩, h.cols.on hb, h.far⟩
/-- The place of a table's name. -/
def isNT (name : ByteArray) (t : TV) : Bool := lst t.nm == lst name
set_option maxHeartbeats 1000000 in
theorem lenC_ (N BC : Nat) (ts : List TV) (w : World) (h : CatIn w N BC ts) : Calls Tryd.prog 26 #[.pointer (some ⟨BC, 0, none⟩)] w fun e w' => e = .returned (.int .i64 ts.length) ∧ w' = w := by
  obtain ⟨a, c, h1, _, _⟩ := h.row
  generalize ts.length = L at *
  clear h
  go_enter Tryd.func26, Tryd.ntmps26
  go_wp2_with fail
  go_ret
  exact ⟨rfl, rfl⟩
set_option maxHeartbeats 1000000 in
theorem lenC_nil (w : World) : Calls Tryd.prog 26 #[.pointer none] w fun e w' => e = .returned (.int .i64 0) ∧ w' = w := by
  go_enter Tryd.func26, Tryd.ntmps26
  go_wp2_with fail
  go_ret
  exact ⟨rfl, rfl⟩
set_option maxRecDepth 100000 in
set_option maxHeartbeats 1000000 in
theorem placeC_ (N BC : Nat) (ts : List TV) (name : ByteArray) (w : World) (h : CatIn w N BC ts) : Calls Tryd.prog 41 #[.pointer (some ⟨BC, 0, none⟩), .string name] w fun e w' => e = .returned (.int .i64 (idxP (isNT name) ts)) ∧ w' = w := by
  have HL := Lib.hid (lenC_ N BC ts w h)
  have hlen := h.len
  obtain ⟨a, c, h1, h2, _⟩ := h.row
  have HI := Lib.hid h2
  obtain ⟨L, hL⟩ : ∃ L, ts.length = L := ⟨_, rfl⟩
  have HLe := Lib.hid hL
  obtain ⟨R, hR⟩ : ∃ R, idxP (isNT name) ts = R := ⟨_, rfl⟩
  have HQ := Lib.hid hR
  rw [hL] at HL h1 hlen
  rw [hR]
  clear h h2 hL hR
  go_enter Tryd.func41, Tryd.ntmps41
  go_wp2_with (first | (go_at_call 26; refine HL.out.mono ?_; rintro e w1 ⟨rfl, rfl⟩) | fail)
  go_loopw [5, 8] (fun s5 iv wr => ∃ i : Nat, i ≤ L ∧ iv = .int .i64 i ∧ wr = w1 ∧ Hid (∀ j (h : j < ts.length), j < i → isNT name ts[j] = false)) (fun _ iv _ => L - (intOf iv).toNat)
  case atStart => exact ⟨0, Nat.zero_le _, rfl, rfl, fun j _ hj => by omega⟩
  case round =>
    obtain ⟨i, hi, rfl, rfl, HV⟩ := hrel
    by_cases hlt : i < L
    · have hlt2 : (i : Int) < (L : Int) := by omega
      have hi1 : i < ts.length := by rw [HLe.out]; exact hlt
      obtain ⟨b, o, rfl, q0, q1⟩ := HI.out i hi1
      have HCi : Hid (isNT name ts[i] = (ts[i].nm.toList == name.toList)) := by show _ = _; rw [beq_lst]; rfl
      generalize ts[i].nm = tn at *
      by_cases he : lst tn = lst name
      · have he2 : (tn.toList == name.toList) = true := by rw [beq_lst, he]; simp
        have HF : Hid (R = (i : Int)) := by show _ = _; rw [← HQ.out]; exact idxP_at hi1 HV.out (by rw [HCi.out]; exact he2)
        clear he HV HCi q1
        go_wp2_with fail
        go_ret
        exact ⟨by rw [HF.out]; rfl, rfl⟩
      · have he2 : (tn.toList == name.toList) = false := beq_ne he
        have HV2 : Hid (∀ j (h : j < ts.length), j < i + 1 → isNT name ts[j] = false) := fun j hj hji => by
          rcases Nat.lt_or_ge j i with hh | hh
          · exact HV.out j hj hh
          · obtain rfl : j = i := by omega
            rw [HCi.out]; exact he2
        clear he HV HCi q1
        go_wp2_with fail
        go_roundw
        case rel => exact ⟨i + 1, by omega, by go_num, by trivial, HV2⟩
        case measure => simp [intOf]; omega
    · obtain rfl : i = L := by omega
      have HF : Hid (R = -1) := by show _ = _; rw [← HQ.out]; exact idxP_none fun j hj => HV.out j hj (by rw [← HLe.out]; exact hj)
      clear HV
      go_wp2_with fail
      go_ret
      exact ⟨by rw [HF.out]; rfl, rfl⟩
set_option maxHeartbeats 1000000 in
theorem placeC_nil (name : ByteArray) (w : World) : Calls Tryd.prog 41 #[.pointer none, .string name] w fun e w' => e = .returned (.int .i64 (-1)) ∧ w' = w := by
  have HL := Lib.hid (lenC_nil w)
  go_enter Tryd.func41, Tryd.ntmps41
  go_wp2_with (first | (go_at_call 26; refine HL.out.mono ?_; rintro e w1 ⟨rfl, rfl⟩) | fail)
  refine wp_loop_rounds 1 ?_
  rw [rounds_succ]
  go_wp2_with fail
  go_ret
  exact ⟨rfl, rfl⟩
/-- A table's place, and the error. -/
def tabI (name : ByteArray) (ts : List TV) : Int := if idxP (isNT name) ts < 0 then 0 else idxP (isNT name) ts
def tabX (name : ByteArray) (ts : List TV) : Int := if idxP (isNT name) ts < 0 then 30 else 0
set_option maxHeartbeats 1000000 in
theorem findC_ (N BC : Nat) (ts : List TV) (name : ByteArray) (w : World) (h : CatIn w N BC ts) : Calls Tryd.prog 25 #[.pointer (some ⟨BC, 0, none⟩), .string name] w fun e w' => e = .returned (.tuple #[.int .i64 (tabI name ts), errV 63 (tabX name ts)]) ∧ w' = w := by
  have HP := Lib.hid (placeC_ N BC ts name w h)
  have hcase := idxP_any (isNT name) ts
  have HI : Hid (tabI name ts = if idxP (isNT name) ts < 0 then 0 else idxP (isNT name) ts) := rfl
  have HX : Hid (tabX name ts = if idxP (isNT name) ts < 0 then 30 else 0) := rfl
  generalize tabI name ts = I at *
  generalize tabX name ts = X at *
  generalize idxP (isNT name) ts = P at *
  generalize ts.any (isNT name) = A at *
  clear h
  rcases hcase with ⟨_, i, rfl, _⟩ | ⟨_, rfl⟩
  · have HF : Hid (I = (i : Int) ∧ X = 0) := ⟨by rw [HI.out, if_neg (by omega)], by rw [HX.out, if_neg (by omega)]⟩
    have h0 : ¬ ((i : Int) < 0) := by omega
    clear HI HX
    go_enter Tryd.func25, Tryd.ntmps25
    go_wp2_with (first | (go_at_call 41; refine HP.out.mono ?_; rintro e w1 ⟨rfl, rfl⟩) | fail)
    exact bodyPost_ret (v := .tuple #[.int .i64 i, .nilIface]) (by simp [results, Tryd.results25, go_sem]) rfl ⟨by rw [HF.out.1, HF.out.2]; rfl, rfl⟩
  · have HF : Hid (I = 0 ∧ X = 30) := ⟨by rw [HI.out]; rfl, by rw [HX.out]; rfl⟩
    clear HI HX
    go_enter Tryd.func25, Tryd.ntmps25
    go_wp2_with (first | (go_at_call 41; refine HP.out.mono ?_; rintro e w1 ⟨rfl, rfl⟩) | fail)
    exact bodyPost_ret (v := .tuple #[.int .i64 0, .iface 63 (.int .i64 30)]) (by simp [results, Tryd.results25, go_sem]) rfl ⟨by rw [HF.out.1, HF.out.2]; rfl, rfl⟩
set_option maxHeartbeats 1000000 in
theorem findC_nil (name : ByteArray) (w : World) : Calls Tryd.prog 25 #[.pointer none, .string name] w fun e w' => e = .returned (.tuple #[.int .i64 0, .iface 63 (.int .i64 30)]) ∧ w' = w := by
  have HP := Lib.hid (placeC_nil name w)
  go_enter Tryd.func25, Tryd.ntmps25
  go_wp2_with (first | (go_at_call 41; refine HP.out.mono ?_; rintro e w1 ⟨rfl, rfl⟩) | fail)
  exact bodyPost_ret (v := .tuple #[.int .i64 0, .iface 63 (.int .i64 30)]) (by simp [results, Tryd.results25, go_sem]) rfl ⟨rfl, rfl⟩
end Go.Proofs.YtlgnllnjhpihdaaDoor
