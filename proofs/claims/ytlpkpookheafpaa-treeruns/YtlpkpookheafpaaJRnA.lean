/- The document's Get, Put, Drop; The document's Put, Drop; The document's Drop. -/
import Derived.Test.YtlpkpookheafpaaRnMem
namespace Go.Proofs.Ytlpkpookheafpaa
open Go.RowKit Go.Sort

set_option maxRecDepth 100000 in
set_option maxHeartbeats 1000000 in
theorem rget_ {w : World} {B : Nat} {v : Value} {l : List It} (hr : RowR w B v l) (hs : Srt l) (hl : l.length ≤ 1000) (k : ByteArray) :
    Calls Try.prog 32 #[v, .string k] w fun e w' => e = .returned (.tuple #[.string ((get k l).getD ⟨#[]⟩), .bool (get k l).isSome]) ∧ Below w.heap.size w w' := by
  have HA := Lib.hid (at_ hr hs hl k)
  obtain ⟨a, c, rfl, hc63, hat⟩ := hr.items
  obtain ⟨_, h2⟩ := lo_get hs k
  have hml : (lo k l).length ≤ l.length := List.length_filter_le _ _
  rcases h2 with ⟨_, e2⟩ | ⟨x, hx, hxk, hc⟩
  · rw [e2] at HA ⊢
    clear hr hs hat e2
    generalize (lo k l).length = m at *
    generalize l.length = L at *
    go_enter Try.func32, Try.ntmps32
    go_wp2_with (first
      | (go_at_call 28; refine HA.out.mono ?_; rintro e w1 ⟨rfl, hb⟩; have HB := Lib.hid hb; clear hb)
      | fail)
    go_ret2
    exact ⟨rfl, HB.out⟩
  · rcases hc with ⟨_, e2⟩ | ⟨_, e2⟩
    · obtain ⟨g, e1, hg, _, d2⟩ := hat _ x hx
      subst e1
      have HC : Hid (∀ V, Below w.heap.size w V → V.cell? ⟨g, (lo k l).length * 2 + 1, none⟩ = some (.string x.2)) := fun V hV => (hV.cell (p := ⟨g, (lo k l).length * 2 + 1, none⟩) hg).trans d2
      have hmL : (lo k l).length < l.length := (List.getElem?_eq_some_iff.1 hx).1
      rw [e2] at HA ⊢
      clear hr hs hat e2 d2 hx hxk
      generalize x.2 = u at *
      generalize (lo k l).length = m at *
      generalize l.length = L at *
      go_enter Try.func32, Try.ntmps32
      go_wp2_with (first
        | (go_at_call 28; refine HA.out.mono ?_; rintro e w1 ⟨rfl, hb⟩; have d3 := HC.out w1 hb; have HB := Lib.hid hb; clear hb)
        | fail)
      go_ret2
      exact ⟨rfl, HB.out⟩
    · rw [e2] at HA ⊢
      clear hr hs hat e2 hx hxk
      generalize (lo k l).length = m at *
      generalize l.length = L at *
      go_enter Try.func32, Try.ntmps32
      go_wp2_with (first
        | (go_at_call 28; refine HA.out.mono ?_; rintro e w1 ⟨rfl, hb⟩; have HB := Lib.hid hb; clear hb)
        | fail)
      go_ret2
      exact ⟨rfl, HB.out⟩

/-! ### Parts of a row, and what is laid behind another -/
/-- Pairs that are read. -/
def Src (w : World) (v : Value) (xs : List It) : Prop := v = .slice none 0 0 ∧ xs = [] ∨ ∃ g o c, v = .slice (some ⟨g, o, none⟩) xs.length c ∧ g < w.heap.size ∧ ∀ (j : Nat) u, (cI xs)[j]? = some u → w.cell? ⟨g, o + j, none⟩ = some u
theorem Src.on {w w' : World} {v : Value} {xs : List It} (h : Src w v xs) (hb : Below w.heap.size w w') : Src w' v xs := by
  rcases h with h | ⟨g, o, c, e, h1, h2⟩
  · exact .inl h
  · exact .inr ⟨g, o, c, e, Nat.lt_of_lt_of_le h1 hb.size, fun j u hj => (hb.cell (p := ⟨g, o + j, none⟩) h1).trans (h2 j u hj)⟩
theorem RowR.cells {w : World} {B : Nat} {l : List It} {g n c : Nat} (h : RowR w B (.slice (some ⟨g, 0, none⟩) n c) l) : g < w.heap.size ∧ ∀ (j : Nat) u, (cI l)[j]? = some u → w.cell? ⟨g, j, none⟩ = some u := by
  rcases h.2 with ⟨e, _⟩ | ⟨g', cap, cur, e, _, h2, _, _, _, h6⟩
  · cases e
  · simp only [Value.slice.injEq, Option.some.injEq, Addr.mk.injEq] at e
    obtain ⟨⟨rfl, _⟩, _⟩ := e
    refine ⟨blk_lt h2, fun j u hj => cell_of h2 ?_⟩
    rw [← h6, List.getElem?_take] at hj
    split at hj
    · simpa using hj
    · cases hj
theorem RowR.shape {w : World} {B : Nat} {v : Value} {l : List It} (h : RowR w B v l) : v = .slice none 0 0 ∧ l = [] ∨ ∃ g c, v = .slice (some ⟨g, 0, none⟩) l.length c ∧ l.length ≤ c ∧ c ≤ 9223372036854775807 := by
  rcases h.2 with ⟨e, e2⟩ | ⟨g, cap, cur, e, _, _, h3, h4, _⟩
  · exact .inl ⟨e, List.eq_nil_of_length_eq_zero e2⟩
  · exact .inr ⟨g, cap, e, h3, by unfold maxLen at h4; omega⟩
/-- The first pairs, the last ones. -/
theorem RowR.take {w : World} {B : Nat} {l : List It} {a : Option Addr} {n c : Nat} (h : RowR w B (.slice a n c) l) {i : Nat} (hi : i ≤ l.length) : Src w (.slice a i c) (l.take i) := by
  rcases h.shape with ⟨e, rfl⟩ | ⟨g, c', e, _⟩
  · cases e
    obtain rfl : i = 0 := by simpa using hi
    exact .inl ⟨rfl, rfl⟩
  · simp only [Value.slice.injEq] at e
    obtain ⟨rfl, _, rfl⟩ := e
    obtain ⟨h1, h2⟩ := h.cells
    refine .inr ⟨g, 0, c, by rw [List.length_take, Nat.min_eq_left hi], h1, fun j u hj => ?_⟩
    rw [Nat.zero_add]
    refine h2 j u ?_
    rw [← cI_take, List.getElem?_take] at hj
    split at hj
    · exact hj
    · cases hj
def subA (a : Option Addr) (c j : Nat) : Option Addr := if c = j then a else a.map (·.add (j * 2))
theorem RowR.drop {w : World} {B : Nat} {l : List It} {a : Option Addr} {n c : Nat} (h : RowR w B (.slice a n c) l) {j : Nat} (hj : j ≤ l.length) : Src w (.slice (subA a c j) (l.length - j) (c - j)) (l.drop j) := by
  rcases h.shape with ⟨e, rfl⟩ | ⟨g, c', e, hc, _⟩
  · cases e
    obtain rfl : j = 0 := by simpa using hj
    exact .inl ⟨rfl, rfl⟩
  · simp only [Value.slice.injEq] at e
    obtain ⟨rfl, _, rfl⟩ := e
    obtain ⟨h1, h2⟩ := h.cells
    unfold subA
    split
    · next hcj =>
      refine .inr ⟨g, 0, c - j, by rw [List.length_drop], h1, fun i u hi => ?_⟩
      rw [List.drop_of_length_le (by omega)] at hi
      simp [cI] at hi
    · refine .inr ⟨g, j * 2, c - j, by rw [List.length_drop, Option.map_some, Addr.add_lit, Nat.zero_add], h1, fun i u hi => ?_⟩
      refine h2 _ u ?_
      rw [← cI_drop, List.getElem?_drop] at hi
      exact hi
theorem exec_hi {w : World} {act : Act} {o : Oper} {x y : Operand} {a : Option Addr} {n c i : Nat} (ho : o.op = .slice 25 x none (some y) none) (hx : act.eval x = .slice a n c) (hy : act.eval y = .int .i64 i) (hi : i ≤ c) : (execOp act.eval o).run Try.prog w = .ok (.value (.slice a i c)) w := by
  unfold execOp
  simp only [ho, hx, Option.map_some, Option.map_none, hy]
  go_simp
theorem exec_lo {w : World} {act : Act} {o : Oper} {x y : Operand} {a : Option Addr} {n c j : Nat} (ho : o.op = .slice 25 x (some y) none none) (hx : act.eval x = .slice a n c) (hy : act.eval y = .int .i64 j) (hi : j ≤ n) : (execOp act.eval o).run Try.prog w = .ok (.value (.slice (subA a c j) (n - j) (c - j))) w := by
  unfold execOp subA
  simp only [ho, hx, Option.map_some, Option.map_none, hy]
  go_simp
/-- Pairs laid behind a row of one's own. -/
theorem Src.app {w U : World} {B : Nat} {v vo : Value} {L xs : List It} (hs : Src U v xs) (h : RowR U B vo L) (hB : B ≤ U.heap.size) (hl : L.length + xs.length ≤ 100000) (hbl : Below B w U) (ty : TypeId) :
    ∃ a m c V, (Builtin.append_ #[25, 25] ty #[vo, v]).run Try.prog U = .ok (.slice a m c) V ∧ RowR V B (.slice a m c) (L ++ xs) ∧ Below B w V ∧ U.grownBy V vo.ownBlock := by
  obtain ⟨i0, hi0, hz0, hz1, hz2⟩ := info_parts infoPr
  rcases hs with ⟨rfl, rfl⟩ | ⟨g, o, c, rfl, h1, h2⟩
  · have hap := run_append_owned_none (P := Try.prog) U B 25 ty 39 i0 2 Try.underlying25 hi0 _ _ _ h
    obtain ⟨a, c, rfl, _⟩ := row_shape h
    exact ⟨a, _, c, U, hap, by rw [List.append_nil]; exact h, hbl, grown_refl _ _⟩
  · obtain ⟨v', V, hr, g2, g3, _, _⟩ := run_append_own_at (P := Try.prog) U B 25 ty 39 i0 _ 2 32 Try.underlying25 hi0 hz0 hz1 hz2 rfl (by decide) vo L.length _ h ⟨g, o, none⟩ xs.length c (cI xs) (cI_len xs) (fun j u hj => by rw [Addr.add_lit]; exact h2 j u hj) (cI_one _) (by unfold maxLen; omega) (by omega) hB
    have g2' : RowR V B v' (L ++ xs) := by
      unfold RowR
      rw [List.length_append, cI_append]
      exact g2
    obtain ⟨a, c', rfl, _⟩ := row_shape g2'
    exact ⟨a, _, c', V, hr, g2', hbl.trans (below_grown h hB g3), g3⟩
theorem run_buildR (w : World) (x : It) (a : Act) (o : Oper) (y : Operand) (h : o.op = .buildSlice 25 1 #[(0, y)]) (hy : a.eval y = .agg #[.string x.1, .string x.2]) : (execOp a.eval o).run Try.prog w = .ok (.value (.slice (some ⟨w.heap.size, 0, none⟩) 1 1)) (w.alloc (.cells (cI [x]).toArray 39)) := by
  unfold execOp
  simp only [h, List.map_toArray, List.map_cons, List.map_nil, hy]
  simp [Instr.buildSlice, go_sem, cI]
theorem src_one {U : World} {b : Nat} {x : It} (h : U.heap[b]? = some (.cells (cI [x]).toArray 39 (0, 0))) : Src U (.slice (some ⟨b, 0, none⟩) 1 1) [x] :=
  .inr ⟨b, 0, 1, rfl, blk_lt h, fun j u hj => by rw [Nat.zero_add]; exact cell_of h (by simpa using hj)⟩
end Go.Proofs.Ytlpkpookheafpaa

namespace Go.Proofs.Ytlpkpookheafpaa
open Go.RowKit Go.Sort

/-- What the document's Put and Drop leave. -/
def RefTo (w : World) (l' : List It) (g : Option ByteArray) (e : Ending) (w' : World) : Prop := ∃ a m c, e = .returned (.tuple #[.slice a m c, .string (g.getD ⟨#[]⟩), .bool g.isSome]) ∧ RowR w' 0 (.slice a m c) l' ∧ Below w.heap.size w w'
def Chain (w1 : World) (a : Option Addr) (c i : Nat) (x : It) (A : List It) (Z : Option Addr → Nat → Nat → World → Prop) : Prop :=
  ∃ a1 m1 c1 V1 U a2 m2 c2 V2, (Builtin.append_ #[25, 25] 25 #[.slice none 0 0, .slice a i c]).run Try.prog w1 = .ok (.slice a1 m1 c1) V1 ∧
    Hid (∀ (act : Act) (o : Oper) (y : Operand), o.op = .buildSlice 25 1 #[(0, y)] → act.eval y = .agg #[.string x.1, .string x.2] → (execOp act.eval o).run Try.prog V1 = .ok (.value (.slice (some ⟨V1.heap.size, 0, none⟩) 1 1)) U) ∧
    (Builtin.append_ #[25, 25] 25 #[.slice a1 m1 c1, .slice (some ⟨V1.heap.size, 0, none⟩) 1 1]).run Try.prog U = .ok (.slice a2 m2 c2) V2 ∧ Hid (RowR V2 w1.heap.size (.slice a2 m2 c2) (A ++ [x]) ∧ Below w1.heap.size w1 V2) ∧ Z a2 m2 c2 V2
theorem put_chain {w1 : World} {B : Nat} {a : Option Addr} {n c : Nat} {l : List It} (hr : RowR w1 B (.slice a n c) l) (hl : l.length ≤ 1000) {i : Nat} (hi : i ≤ l.length) (x : It) {Z : Option Addr → Nat → Nat → World → Prop}
    (hZ : ∀ a2 m2 c2 V2, RowR V2 w1.heap.size (.slice a2 m2 c2) (l.take i ++ [x]) → Below w1.heap.size w1 V2 → Z a2 m2 c2 V2) : Chain w1 a c i x (l.take i) Z := by
  have hti : (l.take i).length ≤ 1000 := by rw [List.length_take]; omega
  obtain ⟨a1, m1, c1, V1, h1, h2, h3, _⟩ := (hr.take hi).app (w := w1) (vo := .slice none 0 0) (L := []) (World.ownsRow_nil w1 w1.heap.size _ _) (Nat.le_refl _) (by simp only [List.length_nil]; omega) (Below.refl _ _) 25
  rw [List.nil_append] at h2
  have hbU := below_alloc V1 (.cells (cI [x]).toArray 39)
  obtain ⟨a2, m2, c2, V2, k1, k2, k3, _⟩ := (src_one (new_blk V1 _)).app (w := w1) (row_on h2 hbU) (Nat.le_trans h3.size hbU.size) (by simp only [List.length_cons, List.length_nil]; omega) (below_step h3 hbU) 25
  exact ⟨a1, m1, c1, V1, _, a2, m2, c2, V2, h1, fun act o y e1 e2 => run_buildR V1 x act o y e1 e2, k1, ⟨k2, k3⟩, hZ _ _ _ _ k2 k3⟩
theorem put_end {w1 V : World} {B : Nat} {a a2 : Option Addr} {n c m2 c2 : Nat} {l L : List It} (hr : RowR w1 B (.slice a n c) l) (hV : Below w1.heap.size w1 V) (h2 : RowR V w1.heap.size (.slice a2 m2 c2) L) (hl : l.length ≤ 1000) (hL : L.length ≤ 2000) {j : Nat} (hj : j ≤ l.length) :
    ∃ a3 m3 c3 V3, (Builtin.append_ #[25, 25] 25 #[.slice a2 m2 c2, .slice (subA a c j) (l.length - j) (c - j)]).run Try.prog V = .ok (.slice a3 m3 c3) V3 ∧ RowR V3 w1.heap.size (.slice a3 m3 c3) (L ++ l.drop j) ∧ Below w1.heap.size w1 V3 := by
  obtain ⟨a3, m3, c3, V3, k1, k2, k3, _⟩ := ((hr.drop hj).on hV).app (w := w1) h2 hV.size (by rw [List.length_drop]; omega) hV 25
  exact ⟨a3, m3, c3, V3, k1, k2, k3⟩
theorem RowR.cap {w : World} {B : Nat} {a : Option Addr} {n c : Nat} {l : List It} (h : RowR w B (.slice a n c) l) : n = l.length ∧ l.length ≤ c := by
  obtain ⟨a', c', e, _, _, h1, _⟩ := row_shape h
  simp only [Value.slice.injEq] at e
  obtain ⟨_, rfl, rfl⟩ := e
  exact ⟨rfl, h1⟩
/-- A list about a key, cut. -/
theorem cut_new {l : List It} {k : ByteArray} (e : l = lo k l ++ hi k l) : l.take (lo k l).length = lo k l ∧ l.drop (lo k l).length = hi k l := by
  generalize lo k l = A at *
  generalize hi k l = B at *
  subst e
  exact ⟨List.take_left, List.drop_left⟩
theorem cut_key {l : List It} {k u : ByteArray} (e : l = lo k l ++ (k, u) :: hi k l) : l.take (lo k l).length = lo k l ∧ l.drop ((lo k l).length + 1) = hi k l ∧ l[(lo k l).length]? = some (k, u) ∧ (lo k l).length < l.length := by
  generalize lo k l = A at *
  generalize hi k l = B at *
  subst e
  refine ⟨List.take_left, ?_, ?_, ?_⟩
  · rw [show A ++ (k, u) :: B = (A ++ [(k, u)]) ++ B by simp]
    exact List.drop_left' (by simp)
  · rw [List.getElem?_append_right (Nat.le_refl _)]
    simp
  · simp
set_option maxRecDepth 100000 in
set_option maxHeartbeats 2000000 in
theorem rput_ {w : World} {B : Nat} {v : Value} {l : List It} (hr : RowR w B v l) (hs : Srt l) (hl : l.length ≤ 1000) (k x : ByteArray) :
    Calls Try.prog 9 #[v, .string k, .string x] w (RefTo w (ins k x l) (get k l)) := by
  have HA := at_ hr hs hl k
  obtain ⟨a, c, e0, _⟩ := row_shape hr
  subst e0
  have hcap := hr.cap.2
  have hml : (lo k l).length ≤ l.length := List.length_filter_le _ _
  rcases hs.about k with ⟨e, hg⟩ | ⟨u, e, hg⟩
  · rw [hg] at HA ⊢
    obtain ⟨t1, t2⟩ := cut_new e
    have HA' : Hid (Calls Try.prog 28 #[.slice a l.length c, .string k] w fun e w1 => e = .returned (.tuple #[.int .i64 (lo k l).length, .bool false]) ∧ Hid (Below w.heap.size w w1) ∧ Chain w1 a c (lo k l).length (k, x) (lo k l) (fun a2 m2 c2 V2 => ∃ a3 m3 c3 V3, (Builtin.append_ #[25, 25] 25 #[.slice a2 m2 c2, .slice (subA a c (lo k l).length) (l.length - (lo k l).length) (c - (lo k l).length)]).run Try.prog V2 = .ok (.slice a3 m3 c3) V3 ∧ Hid (RefTo w (ins k x l) none (.returned (.tuple #[.slice a3 m3 c3, .string ⟨#[]⟩, .bool false])) V3))) := by
      refine HA.mono fun e w1 ⟨e1, hb⟩ => ⟨e1, hb, ?_⟩
      have hr1 : RowR w1 B (.slice a l.length c) l := row_on hr hb
      have := put_chain hr1 hl hml (k, x) (Z := fun a2 m2 c2 V2 => ∃ a3 m3 c3 V3, (Builtin.append_ #[25, 25] 25 #[.slice a2 m2 c2, .slice (subA a c (lo k l).length) (l.length - (lo k l).length) (c - (lo k l).length)]).run Try.prog V2 = .ok (.slice a3 m3 c3) V3 ∧ Hid (RefTo w (ins k x l) none (.returned (.tuple #[.slice a3 m3 c3, .string ⟨#[]⟩, .bool false])) V3)) (fun a2 m2 c2 V2 k1 k2 => by
        obtain ⟨a3, m3, c3, V3, j1, j2, j3⟩ := put_end hr1 k2 k1 hl (by rw [List.length_append, List.length_take]; simp; omega) hml
        refine ⟨a3, m3, c3, V3, j1, a3, m3, c3, rfl, ?_, below_step hb j3⟩
        rw [t1, t2, List.append_assoc, List.singleton_append] at j2
        exact row_base j2 (Nat.zero_le _))
      rw [t1] at this
      exact this
    have HSl : Hid (∀ (V : World) (act : Act) (o : Oper) (y z : Operand), o.op = .slice 25 y (some z) none none → act.eval y = .slice a l.length c → act.eval z = .int .i64 (lo k l).length → (execOp act.eval o).run Try.prog V = .ok (.value (.slice (subA a c (lo k l).length) (l.length - (lo k l).length) (c - (lo k l).length))) V) := fun V act o y z h1 h2 h3 => exec_lo h1 h2 h3 hml
    have HSh : Hid (∀ (V : World) (act : Act) (o : Oper) (y z : Operand), o.op = .slice 25 y none (some z) none → act.eval y = .slice a l.length c → act.eval z = .int .i64 (lo k l).length → (execOp act.eval o).run Try.prog V = .ok (.value (.slice a (lo k l).length c)) V) := fun V act o y z h1 h2 h3 => exec_hi h1 h2 h3 (by omega)
    clear HA hr hs e hg t1 t2
    generalize subA a c (lo k l).length = a4 at *
    generalize l.length - (lo k l).length = n4 at *
    generalize c - (lo k l).length = c4 at *
    generalize lo k l = A at *
    generalize A.length = m at *
    generalize ins k x l = l' at *
    generalize l.length = L at *
    go_enter Try.func9, Try.ntmps9
    go_wp2_with (first
      | (go_at_call 28; refine HA'.out.mono ?_; rintro e w1 ⟨rfl, HB, a1, m1, c1, V1, U, a2, m2, c2, V2, hap1, HRb, hap2, HR2, a3, m3, c3, V3, hap3, HZ⟩)
      | (refine wpList_exec rfl (HSh.out _ _ _ _ _ rfl rfl rfl) ?_; clear HSh)
      | (refine wpList_exec rfl (exec_append rfl rfl rfl hap1) ?_; clear hap1)
      | (refine wpList_exec rfl (HRb.out _ _ _ rfl rfl) ?_; clear HRb)
      | (refine wpList_exec rfl (exec_append rfl rfl rfl hap2) ?_; clear hap2)
      | (refine wpList_exec rfl (HSl.out _ _ _ _ _ rfl rfl rfl) ?_; clear HSl)
      | (refine wpList_exec rfl (exec_append rfl rfl rfl hap3) ?_; clear hap3)
      | fail)
    go_ret3
    exact HZ.out
  · rw [hg] at HA ⊢
    obtain ⟨t1, t2, t3, t4⟩ := cut_key e
    obtain ⟨g, e1, hgl, _, d2⟩ : ∃ g, a = some ⟨g, 0, none⟩ ∧ g < w.heap.size ∧ w.cell? ⟨g, (lo k l).length * 2, none⟩ = some (.string k) ∧ w.cell? ⟨g, (lo k l).length * 2 + 1, none⟩ = some (.string u) := by
      obtain ⟨a', c', e1, _, hat⟩ := hr.items
      simp only [Value.slice.injEq] at e1
      obtain ⟨rfl, _, rfl⟩ := e1
      exact hat _ _ t3
    subst e1
    obtain ⟨j, hj⟩ : ∃ j, j = (lo k l).length + 1 := ⟨_, rfl⟩
    have HA' : Hid (Calls Try.prog 28 #[.slice (some ⟨g, 0, none⟩) l.length c, .string k] w fun e w1 => e = .returned (.tuple #[.int .i64 (lo k l).length, .bool true]) ∧ Hid (Below w.heap.size w w1) ∧ Chain w1 (some ⟨g, 0, none⟩) c (lo k l).length (k, x) (lo k l) (fun a2 m2 c2 V2 => V2.drew.cell? ⟨g, (lo k l).length * 2 + 1, none⟩ = some (.string u) ∧ ∃ a3 m3 c3 V3, (Builtin.append_ #[25, 25] 25 #[.slice a2 m2 c2, .slice (subA (some ⟨g, 0, none⟩) c j) (l.length - j) (c - j)]).run Try.prog V2.drew = .ok (.slice a3 m3 c3) V3 ∧ V3.cell? ⟨g, (lo k l).length * 2 + 1, none⟩ = some (.string u) ∧ Hid (RefTo w (ins k x l) (some u) (.returned (.tuple #[.slice a3 m3 c3, .string u, .bool true])) V3))) := by
      refine HA.mono fun e w1 ⟨e1, hb⟩ => ⟨e1, hb, ?_⟩
      have hr1 : RowR w1 B (.slice (some ⟨g, 0, none⟩) l.length c) l := row_on hr hb
      have := put_chain hr1 hl hml (k, x) (Z := fun a2 m2 c2 V2 => V2.drew.cell? ⟨g, (lo k l).length * 2 + 1, none⟩ = some (.string u) ∧ ∃ a3 m3 c3 V3, (Builtin.append_ #[25, 25] 25 #[.slice a2 m2 c2, .slice (subA (some ⟨g, 0, none⟩) c j) (l.length - j) (c - j)]).run Try.prog V2.drew = .ok (.slice a3 m3 c3) V3 ∧ V3.cell? ⟨g, (lo k l).length * 2 + 1, none⟩ = some (.string u) ∧ Hid (RefTo w (ins k x l) (some u) (.returned (.tuple #[.slice a3 m3 c3, .string u, .bool true])) V3)) (fun a2 m2 c2 V2 k1 k2 => by
        have k2d := below_step k2 (below_drew V2)
        obtain ⟨a3, m3, c3, V3, j1, j2, j3⟩ := put_end hr1 k2d (row_on k1 (below_drew V2)) hl (by rw [List.length_append, List.length_take]; simp; omega) (j := j) (by omega)
        refine ⟨((below_step hb k2d).cell (p := ⟨g, (lo k l).length * 2 + 1, none⟩) hgl).trans d2, a3, m3, c3, V3, j1, ((below_step hb j3).cell (p := ⟨g, (lo k l).length * 2 + 1, none⟩) hgl).trans d2, a3, m3, c3, rfl, ?_, below_step hb j3⟩
        rw [t1, hj, t2, List.append_assoc, List.singleton_append] at j2
        exact row_base j2 (Nat.zero_le _))
      rw [t1] at this
      exact this
    have hjL : j ≤ l.length := by omega
    have HSl : Hid (∀ (V : World) (act : Act) (o : Oper) (y z : Operand), o.op = .slice 25 y (some z) none none → act.eval y = .slice (some ⟨g, 0, none⟩) l.length c → act.eval z = .int .i64 j → (execOp act.eval o).run Try.prog V = .ok (.value (.slice (subA (some ⟨g, 0, none⟩) c j) (l.length - j) (c - j))) V) := fun V act o y z h1 h2 h3 => exec_lo h1 h2 h3 hjL
    have HSh : Hid (∀ (V : World) (act : Act) (o : Oper) (y z : Operand), o.op = .slice 25 y none (some z) none → act.eval y = .slice (some ⟨g, 0, none⟩) l.length c → act.eval z = .int .i64 (lo k l).length → (execOp act.eval o).run Try.prog V = .ok (.value (.slice (some ⟨g, 0, none⟩) (lo k l).length c)) V) := fun V act o y z h1 h2 h3 => exec_hi h1 h2 h3 (by omega)
    clear HA hr hs e hg t1 t2 t3 d2
    generalize subA (some ⟨g, 0, none⟩) c j = a4 at *
    generalize l.length - j = n4 at *
    generalize c - j = c4 at *
    generalize lo k l = A at *
    generalize A.length = m at *
    generalize ins k x l = l' at *
    generalize l.length = L at *
    have hmj : (m : Int) + 1 = (j : Int) := by omega
    have hwj := wraps_i64 (j : Int) (by omega) (by omega)
    clear hj
    go_enter Try.func9, Try.ntmps9
    go_wp2_with (first
      | (go_at_call 28; refine HA'.out.mono ?_; rintro e w1 ⟨rfl, HB, a1, m1, c1, V1, U, a2, m2, c2, V2, hap1, HRb, hap2, HR2, f1, a3, m3, c3, V3, hap3, f2, HZ⟩)
      | (refine wpList_exec rfl (HSh.out _ _ _ _ _ rfl rfl rfl) ?_; clear HSh)
      | (refine wpList_exec rfl (exec_append rfl rfl rfl hap1) ?_; clear hap1)
      | (refine wpList_exec rfl (HRb.out _ _ _ rfl rfl) ?_; clear HRb)
      | (refine wpList_exec rfl (exec_append rfl rfl rfl hap2) ?_; clear hap2)
      | fail)
    refine wp_region_noPanic ?_
    refine region_ph (A := (fun V => V.cell? ⟨g, m * 2 + 1, none⟩ = some (.string u))) (e1 := 9999) (B := fun _ => True) (e2 := 9999) (C := fun _ => True) (by kernel_rfl) ⟨(f1), fun _ => trivial, fun _ => trivial⟩ (fun hSt => ?_)
    refine take_ph 0 (.slice a2 m2 c2) [] rfl (by kernel_rfl) (fun _ _ _ h => h) (Or.inl ⟨by rfl, ?_⟩) hSt (fun hSn => ?_)
    · intro V _; go_simp
    clear hSt; rename Ph _ _ _ _ _ _ _ => hSt
    simp only [Act.put, List.setIfInBounds_toArray, List.set_cons_zero, List.set_cons_succ]
    refine take_ph 1 (.slice (some ⟨g, 0, none⟩) L c) [] rfl (by kernel_rfl) (fun _ _ _ h => h) (Or.inl ⟨by rfl, ?_⟩) hSt (fun hSn => ?_)
    · intro V _; go_simp
    clear hSt; rename Ph _ _ _ _ _ _ _ => hSt
    simp only [Act.put, List.setIfInBounds_toArray, List.set_cons_zero, List.set_cons_succ]
    refine take_ph 2 (.int .i64 m) [] rfl (by kernel_rfl) (fun _ _ _ h => h) (Or.inl ⟨by rfl, ?_⟩) hSt (fun hSn => ?_)
    · intro V _; go_simp
    clear hSt; rename Ph _ _ _ _ _ _ _ => hSt
    simp only [Act.put, List.setIfInBounds_toArray, List.set_cons_zero, List.set_cons_succ]
    refine take_ph 3 (.int .i64 j) [] rfl (by kernel_rfl) (fun _ _ _ h => h) (Or.inl ⟨by rfl, ?_⟩) hSt (fun hSn => ?_)
    · intro V _; go_simp
    clear hSt; rename Ph _ _ _ _ _ _ _ => hSt
    simp only [Act.put, List.setIfInBounds_toArray, List.set_cons_zero, List.set_cons_succ]
    refine take_ph 4 (.slice a4 n4 c4) [] rfl (by kernel_rfl) (fun _ _ _ h => h) (Or.inl ⟨by rfl, ?_⟩) hSt (fun hSn => ?_)
    · rintro V ⟨hh, _, _⟩; exact HSl.out _ _ _ _ _ rfl rfl rfl
    clear hSt; rename Ph _ _ _ _ _ _ _ => hSt
    simp only [Act.put, List.setIfInBounds_toArray, List.set_cons_zero, List.set_cons_succ]
    refine take_ph 6 (.slice (some ⟨g, 0, none⟩) L c) [] rfl (by kernel_rfl) (fun _ _ _ h => h) (Or.inl ⟨by rfl, ?_⟩) hSt (fun hSn => ?_)
    · intro V _; go_simp
    clear hSt; rename Ph _ _ _ _ _ _ _ => hSt
    simp only [Act.put, List.setIfInBounds_toArray, List.set_cons_zero, List.set_cons_succ]
    refine take_ph 7 (.int .i64 m) [] rfl (by kernel_rfl) (fun _ _ _ h => h) (Or.inl ⟨by rfl, ?_⟩) hSt (fun hSn => ?_)
    · intro V _; go_simp
    clear hSt; rename Ph _ _ _ _ _ _ _ => hSt
    simp only [Act.put, List.setIfInBounds_toArray, List.set_cons_zero, List.set_cons_succ]
    refine take_ph 8 (.pointer (some ⟨g, m * 2, none⟩)) [] rfl (by kernel_rfl) (fun _ _ _ h => h) (Or.inl ⟨by rfl, ?_⟩) hSt (fun hSn => ?_)
    · intro V _; go_simp
    clear hSt; rename Ph _ _ _ _ _ _ _ => hSt
    simp only [Act.put, List.setIfInBounds_toArray, List.set_cons_zero, List.set_cons_succ]
    refine take_ph 9 (.pointer (some ⟨g, m * 2 + 1, none⟩)) [] rfl (by kernel_rfl) (fun _ _ _ h => h) (Or.inl ⟨by rfl, ?_⟩) hSt (fun hSn => ?_)
    · intro V _; go_simp
    clear hSt; rename Ph _ _ _ _ _ _ _ => hSt
    simp only [Act.put, List.setIfInBounds_toArray, List.set_cons_zero, List.set_cons_succ]
    refine take_ph 10 (.string u) [] rfl (by kernel_rfl) (fun _ _ _ h => h) (Or.inl ⟨by rfl, ?_⟩) hSt (fun hSn => ?_)
    · rintro V ⟨hh, _, _⟩; have e0 := hh; clear hh; go_simp
    clear hSt; rename Ph _ _ _ _ _ _ _ => hSt
    simp only [Act.put, List.setIfInBounds_toArray, List.set_cons_zero, List.set_cons_succ]
    refine ready_ph 5 rfl (by kernel_rfl) rfl (.inl (exec_append rfl rfl rfl hap3)) (⟨f2, fun _ => trivial, fun _ => trivial⟩) (fun hSn => ?_)
    clear hSt; rename Ph _ _ _ _ _ _ _ => hSt
    simp only [Act.put, List.setIfInBounds_toArray, List.set_cons_zero, List.set_cons_succ]
    refine take_ph 11 (.slice a3 m3 c3) [] rfl (by kernel_rfl) (fun _ _ _ h => h) (Or.inl ⟨by rfl, ?_⟩) hSt (fun hSn => ?_)
    · intro V _; go_simp
    clear hSt; rename Ph _ _ _ _ _ _ _ => hSt
    simp only [Act.put, List.setIfInBounds_toArray, List.set_cons_zero, List.set_cons_succ]
    refine take_ph 12 (.string u) [] rfl (by kernel_rfl) (fun _ _ _ h => h) (Or.inl ⟨by rfl, ?_⟩) hSt (fun hSn => ?_)
    · intro V _; go_simp
    clear hSt; rename Ph _ _ _ _ _ _ _ => hSt
    simp only [Act.put, List.setIfInBounds_toArray, List.set_cons_zero, List.set_cons_succ]
    refine take_ph 13 (.bool true) [] rfl (by kernel_rfl) (fun _ _ _ h => h) (Or.inl ⟨by rfl, ?_⟩) hSt (fun hSn => ?_)
    · intro V _; go_simp
    clear hSt; rename Ph _ _ _ _ _ _ _ => hSt
    simp only [Act.put, List.setIfInBounds_toArray, List.set_cons_zero, List.set_cons_succ]
    refine done_ph (by kernel_rfl) ?_ _
    clear hSt
    refine NoPanic.normal ?_
    go_wp2_with fail
    go_ret3
    exact HZ.out
end Go.Proofs.Ytlpkpookheafpaa

namespace Go.Proofs.Ytlpkpookheafpaa
open Go.RowKit Go.Sort

set_option maxRecDepth 100000 in
set_option maxHeartbeats 2000000 in
theorem rdrop_ {w : World} {B : Nat} {v : Value} {l : List It} (hr : RowR w B v l) (hs : Srt l) (hl : l.length ≤ 1000) (k : ByteArray) :
    Calls Try.prog 11 #[v, .string k] w (RefTo w (del k l) (get k l)) := by
  have HA := at_ hr hs hl k
  obtain ⟨a, c, e0, _⟩ := row_shape hr
  subst e0
  have hcap := hr.cap.2
  have hml : (lo k l).length ≤ l.length := List.length_filter_le _ _
  rcases hs.about k with ⟨e, hg⟩ | ⟨u, e, hg⟩
  · rw [hg] at HA ⊢
    have HA' : Hid (Calls Try.prog 28 #[.slice a l.length c, .string k] w fun e w1 => e = .returned (.tuple #[.int .i64 (lo k l).length, .bool false]) ∧ Hid (RefTo w (del k l) none (.returned (.tuple #[.slice a l.length c, .string ⟨#[]⟩, .bool false])) w1)) := by
      refine HA.mono fun e' w1 ⟨e1, hb⟩ => ⟨e1, a, _, c, rfl, ?_, hb⟩
      have hd : del k l = l := e.symm
      rw [hd]
      exact row_base (row_on hr hb) (Nat.zero_le _)
    clear HA hr hs e hg
    generalize del k l = l' at *
    generalize (lo k l).length = m at *
    generalize l.length = L at *
    go_enter Try.func11, Try.ntmps11
    go_wp2_with (first
      | (go_at_call 28; refine HA'.out.mono ?_; rintro e w1 ⟨rfl, HZ⟩)
      | fail)
    go_ret3
    exact HZ.out
  · rw [hg] at HA ⊢
    obtain ⟨t1, t2, t3, t4⟩ := cut_key e
    obtain ⟨g, e1, hgl, _, d2⟩ : ∃ g, a = some ⟨g, 0, none⟩ ∧ g < w.heap.size ∧ w.cell? ⟨g, (lo k l).length * 2, none⟩ = some (.string k) ∧ w.cell? ⟨g, (lo k l).length * 2 + 1, none⟩ = some (.string u) := by
      obtain ⟨a', c', e1, _, hat⟩ := hr.items
      simp only [Value.slice.injEq] at e1
      obtain ⟨rfl, _, rfl⟩ := e1
      exact hat _ _ t3
    subst e1
    obtain ⟨j, hj⟩ : ∃ j, j = (lo k l).length + 1 := ⟨_, rfl⟩
    have HA' : Hid (Calls Try.prog 28 #[.slice (some ⟨g, 0, none⟩) l.length c, .string k] w fun e w1 => e = .returned (.tuple #[.int .i64 (lo k l).length, .bool true]) ∧ w1.drew.cell? ⟨g, (lo k l).length * 2 + 1, none⟩ = some (.string u) ∧
        ∃ a1 m1 c1 V1, (Builtin.append_ #[25, 25] 25 #[.slice none 0 0, .slice (some ⟨g, 0, none⟩) (lo k l).length c]).run Try.prog w1.drew = .ok (.slice a1 m1 c1) V1 ∧ V1.cell? ⟨g, (lo k l).length * 2 + 1, none⟩ = some (.string u) ∧
        ∃ a3 m3 c3 V3, (Builtin.append_ #[25, 25] 25 #[.slice a1 m1 c1, .slice (subA (some ⟨g, 0, none⟩) c j) (l.length - j) (c - j)]).run Try.prog V1 = .ok (.slice a3 m3 c3) V3 ∧ V3.cell? ⟨g, (lo k l).length * 2 + 1, none⟩ = some (.string u) ∧ Hid (RefTo w (del k l) (some u) (.returned (.tuple #[.slice a3 m3 c3, .string u, .bool true])) V3)) := by
      refine HA.mono fun e w1 ⟨e1, hb⟩ => ⟨e1, ?_⟩
      have hbd := below_step hb (below_drew w1)
      have hr1 : RowR w1.drew B (.slice (some ⟨g, 0, none⟩) l.length c) l := row_on hr hbd
      have hti : (l.take (lo k l).length).length ≤ 1000 := by rw [List.length_take]; omega
      obtain ⟨a1, m1, c1, V1, h1, h2, h3, _⟩ := (hr1.take hml).app (w := w1.drew) (vo := .slice none 0 0) (L := []) (World.ownsRow_nil w1.drew w1.drew.heap.size _ _) (Nat.le_refl _) (by simp only [List.length_nil]; omega) (Below.refl _ _) 25
      rw [List.nil_append] at h2
      obtain ⟨a3, m3, c3, V3, j1, j2, j3⟩ := put_end hr1 h3 h2 hl (by omega) (j := j) (by omega)
      refine ⟨(hbd.cell (p := ⟨g, (lo k l).length * 2 + 1, none⟩) hgl).trans d2, a1, m1, c1, V1, h1, ((below_step hbd h3).cell (p := ⟨g, (lo k l).length * 2 + 1, none⟩) hgl).trans d2, a3, m3, c3, V3, j1, ((below_step hbd j3).cell (p := ⟨g, (lo k l).length * 2 + 1, none⟩) hgl).trans d2, a3, m3, c3, rfl, ?_, below_step hbd j3⟩
      rw [t1, hj, t2] at j2
      exact row_base j2 (Nat.zero_le _)
    have hjL : j ≤ l.length := by omega
    have HSl : Hid (∀ (V : World) (act : Act) (o : Oper) (y z : Operand), o.op = .slice 25 y (some z) none none → act.eval y = .slice (some ⟨g, 0, none⟩) l.length c → act.eval z = .int .i64 j → (execOp act.eval o).run Try.prog V = .ok (.value (.slice (subA (some ⟨g, 0, none⟩) c j) (l.length - j) (c - j))) V) := fun V act o y z h1 h2 h3 => exec_lo h1 h2 h3 hjL
    have HSh : Hid (∀ (V : World) (act : Act) (o : Oper) (y z : Operand), o.op = .slice 25 y none (some z) none → act.eval y = .slice (some ⟨g, 0, none⟩) l.length c → act.eval z = .int .i64 (lo k l).length → (execOp act.eval o).run Try.prog V = .ok (.value (.slice (some ⟨g, 0, none⟩) (lo k l).length c)) V) := fun V act o y z h1 h2 h3 => exec_hi h1 h2 h3 (by omega)
    clear HA hr hs e hg t1 t2 t3 d2
    generalize subA (some ⟨g, 0, none⟩) c j = a4 at *
    generalize l.length - j = n4 at *
    generalize c - j = c4 at *
    generalize lo k l = A at *
    generalize A.length = m at *
    generalize del k l = l' at *
    generalize l.length = L at *
    have hmj : (m : Int) + 1 = (j : Int) := by omega
    have hwj := wraps_i64 (j : Int) (by omega) (by omega)
    clear hj
    go_enter Try.func11, Try.ntmps11
    go_wp2_with (first
      | (go_at_call 28; refine HA'.out.mono ?_; rintro e w1 ⟨rfl, f0, a1, m1, c1, V1, hap1, f1, a3, m3, c3, V3, hap3, f2, HZ⟩)
      | fail)
    refine wp_region_noPanic ?_
    refine region_ph (A := (fun V => V.cell? ⟨g, m * 2 + 1, none⟩ = some (.string u))) (e1 := 9999) (B := fun _ => True) (e2 := 9999) (C := fun _ => True) (by kernel_rfl) ⟨(f0), fun _ => trivial, fun _ => trivial⟩ (fun hSt => ?_)
    refine take_ph 0 (.slice none 0 0) [] rfl (by kernel_rfl) (fun _ _ _ h => h) (Or.inl ⟨by rfl, ?_⟩) hSt (fun hSn => ?_)
    · intro V _; go_simp
    clear hSt; rename Ph _ _ _ _ _ _ _ => hSt
    simp only [Act.put, List.setIfInBounds_toArray, List.set_cons_zero, List.set_cons_succ]
    refine take_ph 1 (.slice (some ⟨g, 0, none⟩) L c) [] rfl (by kernel_rfl) (fun _ _ _ h => h) (Or.inl ⟨by rfl, ?_⟩) hSt (fun hSn => ?_)
    · intro V _; go_simp
    clear hSt; rename Ph _ _ _ _ _ _ _ => hSt
    simp only [Act.put, List.setIfInBounds_toArray, List.set_cons_zero, List.set_cons_succ]
    refine take_ph 2 (.int .i64 m) [] rfl (by kernel_rfl) (fun _ _ _ h => h) (Or.inl ⟨by rfl, ?_⟩) hSt (fun hSn => ?_)
    · intro V _; go_simp
    clear hSt; rename Ph _ _ _ _ _ _ _ => hSt
    simp only [Act.put, List.setIfInBounds_toArray, List.set_cons_zero, List.set_cons_succ]
    refine take_ph 3 (.slice (some ⟨g, 0, none⟩) m c) [] rfl (by kernel_rfl) (fun _ _ _ h => h) (Or.inl ⟨by rfl, ?_⟩) hSt (fun hSn => ?_)
    · rintro V ⟨hh, _, _⟩; exact HSh.out _ _ _ _ _ rfl rfl rfl
    clear hSt; rename Ph _ _ _ _ _ _ _ => hSt
    simp only [Act.put, List.setIfInBounds_toArray, List.set_cons_zero, List.set_cons_succ]
    refine take_ph 5 (.slice (some ⟨g, 0, none⟩) L c) [] rfl (by kernel_rfl) (fun _ _ _ h => h) (Or.inl ⟨by rfl, ?_⟩) hSt (fun hSn => ?_)
    · intro V _; go_simp
    clear hSt; rename Ph _ _ _ _ _ _ _ => hSt
    simp only [Act.put, List.setIfInBounds_toArray, List.set_cons_zero, List.set_cons_succ]
    refine take_ph 6 (.int .i64 m) [] rfl (by kernel_rfl) (fun _ _ _ h => h) (Or.inl ⟨by rfl, ?_⟩) hSt (fun hSn => ?_)
    · intro V _; go_simp
    clear hSt; rename Ph _ _ _ _ _ _ _ => hSt
    simp only [Act.put, List.setIfInBounds_toArray, List.set_cons_zero, List.set_cons_succ]
    refine take_ph 7 (.int .i64 j) [] rfl (by kernel_rfl) (fun _ _ _ h => h) (Or.inl ⟨by rfl, ?_⟩) hSt (fun hSn => ?_)
    · intro V _; go_simp
    clear hSt; rename Ph _ _ _ _ _ _ _ => hSt
    simp only [Act.put, List.setIfInBounds_toArray, List.set_cons_zero, List.set_cons_succ]
    refine take_ph 8 (.slice a4 n4 c4) [] rfl (by kernel_rfl) (fun _ _ _ h => h) (Or.inl ⟨by rfl, ?_⟩) hSt (fun hSn => ?_)
    · rintro V ⟨hh, _, _⟩; exact HSl.out _ _ _ _ _ rfl rfl rfl
    clear hSt; rename Ph _ _ _ _ _ _ _ => hSt
    simp only [Act.put, List.setIfInBounds_toArray, List.set_cons_zero, List.set_cons_succ]
    refine take_ph 10 (.slice (some ⟨g, 0, none⟩) L c) [] rfl (by kernel_rfl) (fun _ _ _ h => h) (Or.inl ⟨by rfl, ?_⟩) hSt (fun hSn => ?_)
    · intro V _; go_simp
    clear hSt; rename Ph _ _ _ _ _ _ _ => hSt
    simp only [Act.put, List.setIfInBounds_toArray, List.set_cons_zero, List.set_cons_succ]
    refine take_ph 11 (.int .i64 m) [] rfl (by kernel_rfl) (fun _ _ _ h => h) (Or.inl ⟨by rfl, ?_⟩) hSt (fun hSn => ?_)
    · intro V _; go_simp
    clear hSt; rename Ph _ _ _ _ _ _ _ => hSt
    simp only [Act.put, List.setIfInBounds_toArray, List.set_cons_zero, List.set_cons_succ]
    refine take_ph 12 (.pointer (some ⟨g, m * 2, none⟩)) [] rfl (by kernel_rfl) (fun _ _ _ h => h) (Or.inl ⟨by rfl, ?_⟩) hSt (fun hSn => ?_)
    · intro V _; go_simp
    clear hSt; rename Ph _ _ _ _ _ _ _ => hSt
    simp only [Act.put, List.setIfInBounds_toArray, List.set_cons_zero, List.set_cons_succ]
    refine take_ph 13 (.pointer (some ⟨g, m * 2 + 1, none⟩)) [] rfl (by kernel_rfl) (fun _ _ _ h => h) (Or.inl ⟨by rfl, ?_⟩) hSt (fun hSn => ?_)
    · intro V _; go_simp
    clear hSt; rename Ph _ _ _ _ _ _ _ => hSt
    simp only [Act.put, List.setIfInBounds_toArray, List.set_cons_zero, List.set_cons_succ]
    refine take_ph 14 (.string u) [] rfl (by kernel_rfl) (fun _ _ _ h => h) (Or.inl ⟨by rfl, ?_⟩) hSt (fun hSn => ?_)
    · rintro V ⟨hh, _, _⟩; have e0 := hh; clear hh; go_simp
    clear hSt; rename Ph _ _ _ _ _ _ _ => hSt
    simp only [Act.put, List.setIfInBounds_toArray, List.set_cons_zero, List.set_cons_succ]
    refine ready_ph 4 rfl (by kernel_rfl) rfl (.inl (exec_append rfl rfl rfl hap1)) (⟨f1, fun _ => trivial, fun _ => trivial⟩) (fun hSn => ?_)
    clear hSt; rename Ph _ _ _ _ _ _ _ => hSt
    simp only [Act.put, List.setIfInBounds_toArray, List.set_cons_zero, List.set_cons_succ]
    refine ready_ph 9 rfl (by kernel_rfl) rfl (.inl (exec_append rfl rfl rfl hap3)) (⟨f2, fun _ => trivial, fun _ => trivial⟩) (fun hSn => ?_)
    clear hSt; rename Ph _ _ _ _ _ _ _ => hSt
    simp only [Act.put, List.setIfInBounds_toArray, List.set_cons_zero, List.set_cons_succ]
    refine take_ph 15 (.slice a3 m3 c3) [] rfl (by kernel_rfl) (fun _ _ _ h => h) (Or.inl ⟨by rfl, ?_⟩) hSt (fun hSn => ?_)
    · intro V _; go_simp
    clear hSt; rename Ph _ _ _ _ _ _ _ => hSt
    simp only [Act.put, List.setIfInBounds_toArray, List.set_cons_zero, List.set_cons_succ]
    refine take_ph 16 (.string u) [] rfl (by kernel_rfl) (fun _ _ _ h => h) (Or.inl ⟨by rfl, ?_⟩) hSt (fun hSn => ?_)
    · intro V _; go_simp
    clear hSt; rename Ph _ _ _ _ _ _ _ => hSt
    simp only [Act.put, List.setIfInBounds_toArray, List.set_cons_zero, List.set_cons_succ]
    refine take_ph 17 (.bool true) [] rfl (by kernel_rfl) (fun _ _ _ h => h) (Or.inl ⟨by rfl, ?_⟩) hSt (fun hSn => ?_)
    · intro V _; go_simp
    clear hSt; rename Ph _ _ _ _ _ _ _ => hSt
    simp only [Act.put, List.setIfInBounds_toArray, List.set_cons_zero, List.set_cons_succ]
    refine done_ph (by kernel_rfl) ?_ _
    clear hSt
    refine NoPanic.normal ?_
    go_wp2_with fail
    go_ret3
    exact HZ.out
end Go.Proofs.Ytlpkpookheafpaa
