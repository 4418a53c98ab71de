/- Bytes handed on: string(b), append of bytes to a row of one's own; the walks of the law's cut and sure. -/
import Derived.Test.YtdcanhcejhaccaaDoorDRestart
import Derived.Lib.SlBytesConst
import Derived.Deep.AppendLies
namespace Go.Proofs.YtdcanhcejhaccaaDoor
open Go.RowKit Go.Sort Go.Maps

def bs (xs : List Nat) : ByteArray := ⟨(xs.map fun n => UInt8.ofNat n).toArray⟩
theorem bs_size (xs : List Nat) : (bs xs).size = xs.length := by simp [bs, ByteArray.size]
theorem bs_append (xs ys : List Nat) : bs xs ++ bs ys = bs (xs ++ ys) := by
  apply ByteArray.ext
  simp [bs]
/-- A row of bytes that the call has made. -/
def Own (w : World) (base : Nat) (v : Value) (xs : List Nat) : Prop := w.ownsRow base 5 1 v xs.length (vals xs)
theorem Own.bytes {w : World} {base : Nat} {v : Value} {xs : List Nat} (h : Own w base v xs) : ∃ a c, v = .slice a xs.length c ∧ BytesIn w a xs ∧ (a = none → c = 0) := by
  rcases h.2 with ⟨rfl, e⟩ | ⟨g, cap, cur, rfl, _, _, _, _, _, _⟩
  · have : xs = [] := List.eq_nil_of_length_eq_zero e
    subst this
    exact ⟨none, 0, rfl, bytesIn_nil _ _, fun _ => rfl⟩
  · refine ⟨_, _, rfl, fun i hi => ⟨g, 0, rfl, ?_⟩, fun hh => by cases hh⟩
    have := World.ownsRow.cellAt h i (by omega)
    rw [Nat.zero_add, this, vals_get xs i hi]
theorem Own.cells {w : World} {base g n c : Nat} {xs : List Nat} (h : Own w base (.slice (some ⟨g, 0, none⟩) n c) xs) : n = xs.length ∧ BytesIn w (some ⟨g, 0, none⟩) xs ∧ base ≤ g ∧ g < w.heap.size := by
  obtain ⟨a, c', e, hb, _⟩ := h.bytes
  simp only [Value.slice.injEq] at e
  obtain ⟨rfl, rfl, rfl⟩ := e
  obtain ⟨h1, h2⟩ := World.ownsRow.lt h g rfl
  exact ⟨rfl, hb, h1, h2⟩
theorem Own.on {w w' : World} {base : Nat} {v : Value} {xs : List Nat} (h : Own w base v xs) (hb : Below w.heap.size w w') : Own w' base v xs := by
  refine ⟨h.1, ?_⟩
  rcases h.2 with h1 | ⟨g, cap, cur, e, h1, h2, h3, h4, h5, h6⟩
  · exact .inl h1
  · have hlt : g < w.heap.size := by
      rcases Nat.lt_or_ge g w.heap.size with hl | hl
      · exact hl
      · rw [Array.getElem?_eq_none hl] at h2; cases h2
    exact .inr ⟨g, cap, cur, e, h1, (hb.block g hlt).trans h2, h3, h4, h5, h6⟩
theorem Own.lower {w : World} {base base' : Nat} {v : Value} {xs : List Nat} (h : Own w base v xs) (hb : base' ≤ base) : Own w base' v xs := by
  refine ⟨h.1, ?_⟩
  rcases h.2 with h1 | ⟨g, cap, cur, e, h1, h2, h3, h4, h5, h6⟩
  · exact .inl h1
  · exact .inr ⟨g, cap, cur, e, Nat.le_trans hb h1, h2, h3, h4, h5, h6⟩

/-- string(b). -/
theorem conv_ (w : World) (a : Option Addr) (n c : Nat) (xs : List Nat) (hn : n = xs.length) (h : BytesIn w a xs) : (convert 39 9 (.slice a n c)).run Tryd.prog w = .ok (.string (bs xs)) w := by
  have e : strOfNums (xs.map fun (x : Nat) => (x : Int)) = bs xs := by simp [strOfNums, bs, Function.comp_def]
  subst hn
  cases a with
  | none =>
    have hx : xs = [] := by
      cases xs with
      | nil => rfl
      | cons y ys => obtain ⟨_, _, hh, _⟩ := h 0 (by simp); cases hh
    subst hx
    rw [run_convert_bytes_nil w 39 5 Tryd.underlying39 Tryd.underlying5 _ _ 9 Tryd.underlying9]
    rfl
  | some ad =>
    by_cases hx : xs = []
    · subst hx
      rw [run_convert_bytes_string w 39 9 5 _ _ _ Tryd.underlying39 Tryd.underlying5 Tryd.underlying9]
      rw [run_bytesToString w ad _ c [] (by rfl)]
      rfl
    · obtain ⟨b, o, hh, _⟩ := h 0 (by cases xs with | nil => exact absurd rfl hx | cons y ys => simp)
      cases hh
      rw [run_convert_bytes_arg w 39 5 Tryd.underlying39 Tryd.underlying5 b o _ c (xs.map fun (x : Nat) => (x : Int)) (by simp) (fun i hi => by
        obtain ⟨b', o', hh, h1⟩ := h i hi
        cases hh
        rw [h1]
        simp [List.getD_eq_getElem?_getD, List.getElem?_map, List.getElem?_eq_getElem hi]) 9 Tryd.underlying9, e]

theorem own_join {w : World} {base n m : Nat} {v : Value} {xs ys : List Nat} (hn : xs.length = n) (hm : ys.length = m) (h : w.ownsRow base 5 1 v (n + m) (vals xs ++ vals ys)) : Own w base v (xs ++ ys) := by
  subst hn hm
  unfold Own
  rw [← vals_append, List.length_append]
  exact h
theorem own_nil (w : World) (base : Nat) : Own w base (.slice none 0 0) [] := World.ownsRow_nil w base 5 1
theorem below_grow {w0 w w' : World} {v : Value} {es : List Nat} (hb : Below w0.heap.size w0 w) (hown : Own w w0.heap.size v es) (hg : w.grownBy w' v.ownBlock) : Below w0.heap.size w0 w' :=
  hb.grown hg hb.size (fun k hk => (World.ownsRow.lt hown k hk).1)
/-- append(row, bytes...), at the operation. -/
theorem wp_append_bytes (w : World) {o : Oper} {act : Act} {K : Act → World → Prop} {Q : Exit → Act → World → Prop} (s x : Operand)
    (ho : o.op = .call { callee := .builtin .append, args := #[s, x], argTypes := #[39, 39] }) (base : Nat) (v : Value) (es ys : List Nat) (hs : act.eval s = v) (hown : Own w base v es)
    (a : Option Addr) (m c' : Nat) (hx : act.eval x = .slice a m c') (hm : ys.length = m) (hnil : a = none → c' = 0) (hin : BytesIn w a ys) (hbytes : es.length + ys.length ≤ 140737488355328) (hbase : base ≤ w.heap.size)
    (hK : ∀ v' w', Own w' base v' (es ++ ys) → w.grownBy w' v.ownBlock → K (act.put o.dst v') w') : o.wp Tryd.prog act w K Q := by
  obtain ⟨i0, hi, hz0, hz1, hz2⟩ := info_parts infoB
  subst hm
  cases a with
  | none =>
    obtain rfl := bytes_none hin
    obtain rfl := hnil rfl
    have hrun := run_append_owned_none (P := Tryd.prog) w base 39 o.type 5 i0 1 Tryd.underlying39 hi _ _ _ hown
    unfold Oper.wp
    simp only [List.length_nil] at hx
    simp [execOp, ho, resolve, invoke, builtin, hs, hx, hrun, Result.andThen]
    have := hK v w (by rw [List.append_nil]; exact hown) ⟨rfl, rfl, rfl, Nat.le_refl _, fun _ _ _ => rfl⟩
    exact this
  | some ad =>
    obtain ⟨v', w', hr, h2, h3, _⟩ := run_append_own_at (P := Tryd.prog) w base 39 o.type 5 i0 (.int .u8 0) 1 1 Tryd.underlying39 hi hz0 hz1 hz2 rfl (by decide) v es.length (vals es) hown ad ys.length c' (vals ys) (by rw [vals_len]; omega) hin.news (vals_one ys) (by unfold maxLen; omega) (by omega) hbase
    unfold Oper.wp execOp
    simp only [ho, resolve, invoke, builtin, Sem.run_bind, Sem.run_pure, Result.andThen_ok, List.map_toArray, List.map_cons, List.map_nil, hs, hx, hr]
    exact hK v' w' (own_join rfl rfl h2) h3
/-- The same at a plain region's list. -/
theorem wpList_append_bytes (w : World) {ops : Array Oper} {rest : List Oper} {o : Oper} {act : Act} {Q : Exit → Act → World → Prop} (hgd : o.guard = none) (s x : Operand)
    (ho : o.op = .call { callee := .builtin .append, args := #[s, x], argTypes := #[39, 39] }) (base : Nat) (v : Value) (es ys : List Nat) (hs : act.eval s = v) (hown : Own w base v es)
    (a : Option Addr) (m c' : Nat) (hx : act.eval x = .slice a m c') (hm : ys.length = m) (hnil : a = none → c' = 0) (hin : BytesIn w a ys) (hbytes : es.length + ys.length ≤ 140737488355328) (hbase : base ≤ w.heap.size)
    (hK : ∀ v' w', Own w' base v' (es ++ ys) → w.grownBy w' v.ownBlock → wpList Tryd.prog ops Q rest (act.put o.dst v') w') : wpList Tryd.prog ops Q (o :: rest) act w :=
  wpList_plain hgd fun _ hK' => wp_append_bytes w s x ho base v es ys hs hown a m c' hx hm hnil hin hbytes hbase fun v' w' h1 h2 => hK' _ _ (hK v' w' h1 h2)
/-- The same at a step of a region that draws its order. -/
theorem step_append_bytes (w : World) {ops : Array Oper} {o : Oper} {act : Act} {K : Act → World → Prop} {Q : Exit → Act → World → Prop} {E : Prop} (hgd : o.guard = none) (s x : Operand)
    (ho : o.op = .call { callee := .builtin .append, args := #[s, x], argTypes := #[39, 39] }) (base : Nat) (v : Value) (es ys : List Nat) (hs : act.eval s = v) (hown : Own w base v es)
    (a : Option Addr) (m c' : Nat) (hx : act.eval x = .slice a m c') (hm : ys.length = m) (hnil : a = none → c' = 0) (hin : BytesIn w a ys) (hbytes : es.length + ys.length ≤ 140737488355328) (hbase : base ≤ w.heap.size)
    (hK : ∀ v' w', Own w' base v' (es ++ ys) → w.grownBy w' v.ownBlock → K (act.put o.dst v') w') : if Region.wanted o (yielded ops act.tmps) = true then Oper.wp Tryd.prog o act w K Q else E := by
  have hw : Region.wanted o (yielded ops act.tmps) = true := by simp [Region.wanted, hgd]
  rw [if_pos hw]
  exact wp_append_bytes w s x ho base v es ys hs hown a m c' hx hm hnil hin hbytes hbase hK
/-- What a call hands back that has made these bytes. -/
def Made (w : World) (xs : List Nat) (e : Ending) (w' : World) : Prop :=
  ∃ a c, e = .returned (.slice a xs.length c) ∧ Own w' w.heap.size (.slice a xs.length c) xs ∧ BytesIn w' a xs ∧ (a = none → c = 0) ∧ Below w.heap.size w w'
theorem made_of {w w' : World} {v : Value} {xs : List Nat} (h : Own w' w.heap.size v xs) (hb : Below w.heap.size w w') : Made w xs (.returned v) w' := by
  obtain ⟨a, c, rfl, h1, h2⟩ := h.bytes
  exact ⟨a, c, rfl, h, h1, h2, hb⟩

set_option maxHeartbeats 1000000 in
theorem cut_ (a : Option Addr) (xs : List Nat) (n c : Nat) (w : World) (h : BytesIn w a xs) (hn : xs.length = n) (hc : a = none → c = 0) (hnc : n ≤ c) :
    Calls Tryd.prog 21 #[.slice a n c] w (Made w (xs.take 64)) := by
  have HB := Lib.hid h
  have HC := Lib.hid hc
  have HN := Lib.hid hn
  clear h hc hn
  by_cases h64 : n ≤ 64
  · have HT : Hid (xs.take 64 = xs) := List.take_of_length_le (by rw [HN.out]; exact h64)
    rw [HT.out]
    have hm : (min (n : Int) 64) = n := by omega
    go_enter Tryd.func21, Tryd.ntmps21
    go_wp2_with (first
      | (at_builtin; refine wpList_append_bytes _ rfl _ _ rfl w.heap.size _ [] xs rfl (own_nil _ _) a n c rfl HN.out HC.out HB.out (by rw [HN.out]; simp; omega) (Nat.le_refl _) ?_
         intro v' w2 hown hgrow
         have HO := Lib.hid hown
         have Hb := Lib.hid (below_grow (Below.refl _ _) (own_nil w w.heap.size) hgrow)
         clear hown hgrow)
      | fail)
    go_ret
    exact made_of HO.out Hb.out
  · have hl : (xs.take 64).length = 64 := by rw [List.length_take, HN.out]; omega
    have hm : (min (n : Int) 64) = 64 := by omega
    go_enter Tryd.func21, Tryd.ntmps21
    go_wp2_with (first
      | (at_builtin; refine wpList_append_bytes _ rfl _ _ rfl w.heap.size _ [] (xs.take 64) rfl (own_nil _ _) a 64 c rfl hl HC.out (HB.out.take 64) (by rw [hl]; simp) (Nat.le_refl _) ?_
         intro v' w2 hown hgrow
         have HO := Lib.hid hown
         have Hb := Lib.hid (below_grow (Below.refl _ _) (own_nil w w.heap.size) hgrow)
         clear hown hgrow)
      | fail)
    go_ret
    exact made_of HO.out Hb.out
theorem bytes_new (w : World) (xs : List Nat) (fr : Nat × Nat) : BytesIn (w.alloc (.cells (vals xs).toArray 5 fr)) (some ⟨w.heap.size, 0, none⟩) xs := by
  intro i hi
  refine ⟨_, _, rfl, ?_⟩
  rw [Nat.zero_add]
  exact cell_of (World.alloc_heap_new' w _) (by simpa using vals_get xs i hi)
theorem ints_new (w : World) (zs : List Int) (fr : Nat × Nat) : IntsIn (w.alloc (.cells (zs.map (Value.int .i64)).toArray 3 fr)) (some ⟨w.heap.size, 0, none⟩) zs := by
  intro i hi
  refine ⟨_, _, rfl, ?_⟩
  rw [Nat.zero_add]
  exact cell_of (World.alloc_heap_new' w _) (by simp [hi])
/-- A device that is new is worked on: what was there stays. -/
theorem below_step' {W w w' : World} (h : Below W.heap.size W w) (hf : Fd (W.heap.size + 2) W.heap.size (W.heap.size + 1) w w') : Below W.heap.size W w' :=
  h.trans (hf.below h.size (by omega) (by omega) (by omega))
theorem below_alloc (w : World) (o : Obj) : Below w.heap.size w (w.alloc o) := (Below.refl _ _).alloc (Nat.le_refl _) _
/-- What stands in the sector that sure writes. -/
def dSure : Dev := restartD (writeD (newD 1 4) (0, 3) [110, 101, 119]) [1]
theorem sure_write : wErr (newD 1 4) (0, 3) 3 = 0 := by decide
theorem sure_rerr : rErr dSure (0, 3) = 0 := by decide
theorem sure_read : readD dSure (0, 3) = fillC [110, 101, 119] := by decide
set_option maxRecDepth 100000 in
set_option maxHeartbeats 2000000 in
theorem sure_ (w : World) : Calls Tryd.prog 9 #[] w fun e w' => e = .returned (.bool true) ∧ Below w.heap.size w w' := by
  have kc := fun (w : World) (C : Array Value) (n c : Nat) => Lib.run_convert_bytes_const (P := Tryd.prog) w 39 5 C n c Tryd.underlying39 Tryd.underlying5
  have HN := Lib.hid (new_ 1 4 w (by omega))
  go_enter Tryd.func9, Tryd.ntmps9
  go_wp2_with fail
  refine HN.out.mono ?_
  rintro e w1 ⟨rfl, hb1, hd1⟩
  have HB1 := Lib.hid hb1
  have HD1 := Lib.hid hd1
  clear hb1 hd1 HN
  unfold pt
  have HW : Hid (Calls Tryd.prog 17 #[.pointer (some ⟨w.heap.size + 2, 0, none⟩), .int .i64 0, .int .i64 3, .slice (some ⟨w1.heap.size, 0, none⟩) 3 3] (w1.alloc (.cells #[.int .u8 110, .int .u8 101, .int .u8 119] 5 (3, 4))) fun e w' => e = .returned .nilIface ∧ DevIn w' (w.heap.size + 2) w.heap.size (w.heap.size + 1) (writeD (newD 1 4) (0, 3) [110, 101, 119]) 1 ∧ Fd (w.heap.size + 2) w.heap.size (w.heap.size + 1) (w1.alloc (.cells #[.int .u8 110, .int .u8 101, .int .u8 119] 5 (3, 4))) w') :=
    (write_ (HD1.out.on (below_alloc w1 _)) (0, 3) (some ⟨w1.heap.size, 0, none⟩) [110, 101, 119] 3 3 (bytes_new w1 [110, 101, 119] (3, 4)) rfl (by decide) (by omega)).mono fun e w' ⟨h1, h2⟩ => ⟨h1.trans (by rw [sure_write]; rfl), h2⟩
  have HB2 := Lib.hid (below_step HB1.out (below_alloc w1 (.cells #[.int .u8 110, .int .u8 101, .int .u8 119] 5 (3, 4))))
  go_wp2_with fail
  generalize w1.alloc (.cells #[.int .u8 110, .int .u8 101, .int .u8 119] 5 (3, 4)) = V1 at *
  refine HW.out.mono ?_
  rintro e w2 ⟨rfl, hd2, hf2⟩
  have HB3 := Lib.hid (below_step' HB2.out hf2)
  have HR : Hid (Calls Tryd.prog 16 #[.pointer (some ⟨w.heap.size + 2, 0, none⟩), .slice (some ⟨w2.heap.size, 0, none⟩) 1 1] (w2.alloc (.cells #[.int .i64 1] 3)) fun e w' => e = .returned (.tuple #[]) ∧ DevIn w' (w.heap.size + 2) w.heap.size (w.heap.size + 1) dSure 1 ∧ Fd (w.heap.size + 2) w.heap.size (w.heap.size + 1) (w2.alloc (.cells #[.int .i64 1] 3)) w') :=
    restart_ (hd2.on (below_alloc w2 _)) _ [1] 1 1 rfl (ints_new w2 [1] (0, 0)) (fun b o e => by simp only [Option.some.injEq, Addr.mk.injEq] at e; have := hd2.lts.1; omega) (by omega)
  have HB4 := Lib.hid (below_step HB3.out (below_alloc w2 (.cells #[.int .i64 1] 3)))
  clear hd2 hf2 HW HB2 HB3 HD1
  go_wp2_with fail
  generalize w2.alloc (.cells #[.int .i64 1] 3) = V2 at *
  refine HR.out.mono ?_
  rintro e w3 ⟨rfl, hd3, hf3⟩
  have HB5 := Lib.hid (below_step' HB4.out hf3)
  have HG : Hid (Calls Tryd.prog 19 #[.pointer (some ⟨w.heap.size + 2, 0, none⟩), .int .i64 0, .int .i64 3] w3 (GotC w3 (fillC [110, 101, 119]))) :=
    (read_ hd3 (0, 3)).mono fun e w' h => by
      rcases h with ⟨_, h⟩ | ⟨h, _⟩
      · rw [sure_read] at h; exact h
      · exact absurd sure_rerr h
  clear hd3 hf3 HR HB4
  go_wp2_with fail
  refine HG.out.mono ?_
  rintro e w4 ⟨g, rfl, hg, hg4, hb4⟩
  have HB6 := Lib.hid (below_step HB5.out hb4)
  have hcv : (convert 39 9 (.slice (some ⟨g, 0, none⟩) 3 64)).run Tryd.prog w4 = .ok (.string (bs [110, 101, 119])) w4 := conv_ w4 _ 3 64 [110, 101, 119] rfl ((ct_bytes 5 hg4).take 3)
  have hbs : bs [110, 101, 119] = { data := #[110, 101, 119] } := rfl
  rw [hbs] at hcv
  clear hg4 hb4 HG HB5 hbs hg
  go_wp2_with fail
  go_ret
  exact ⟨rfl, HB6.out⟩
end Go.Proofs.YtdcanhcejhaccaaDoor
