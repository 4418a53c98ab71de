/- Plain facts for TreeShape: rows of counts; node.asRow; Rows that Shape makes: numbers, nodes, rows of numbers. -/
import Derived.Test.YtlpkpookheafpaaVNod
import Derived.Test.YtlpkpookheafpaaVStep
import Derived.Test.YtlpkpookheafpaaVTree
import Derived.Test.YtlpkpookheafpaaVKeys
namespace Go.Proofs.Ytlpkpookheafpaa
open Go.Lib

/-- Rows of nodes by their counts of keys: w nodes in the first, each with at least m; in all behind it at least three. -/
def Shp : Nat → Nat → List (List Nat) → Prop
  | _, _, [] => True
  | w, m, r :: rs => r.length = w ∧ (∀ c ∈ r, m ≤ c ∧ c ≤ 7) ∧ Shp (r.sum + r.length) 3 rs
def tot (rs : List (List Nat)) : Nat := (rs.map List.sum).sum
theorem tot_cons (r : List Nat) (rs : List (List Nat)) : tot (r :: rs) = r.sum + tot rs := by simp [tot]
theorem sum_ge {m : Nat} : ∀ {r : List Nat}, (∀ c ∈ r, m ≤ c ∧ c ≤ 7) → r.length * m ≤ r.sum
  | [], _ => by simp
  | c :: r, h => by
    have := sum_ge (r := r) fun x hx => h x (List.mem_cons_of_mem _ hx)
    have := (h c List.mem_cons_self).1
    rw [List.length_cons, List.sum_cons, Nat.add_mul]
    omega
theorem shp_grow : ∀ {rs : List (List Nat)} {w : Nat}, Shp w 3 rs → w * 4 ^ rs.length ≤ w + tot rs
  | [], w, _ => by simp [tot]
  | r :: rs, w, ⟨h1, h2, h3⟩ => by
    have ih := shp_grow h3
    have hs := sum_ge h2
    rw [h1] at hs ih
    rw [tot_cons, List.length_cons, Nat.pow_succ]
    have : w * 4 * 4 ^ rs.length ≤ (r.sum + w) * 4 ^ rs.length := Nat.mul_le_mul_right _ (by omega)
    have e : w * (4 ^ rs.length * 4) = w * 4 * 4 ^ rs.length := by rw [Nat.mul_assoc, Nat.mul_comm 4]
    rw [e]
    omega
/-- The rows are few. -/
theorem shp_few {r : List Nat} {rs : List (List Nat)} (h : Shp 1 1 (r :: rs)) : 4 ^ rs.length ≤ (tot (r :: rs) + 1) / 2 := by
  obtain ⟨h1, h2, h3⟩ := h
  have hs := sum_ge h2
  have := shp_grow h3
  rw [h1] at this hs
  have h4 : 2 * 4 ^ rs.length ≤ (r.sum + 1) * 4 ^ rs.length := Nat.mul_le_mul_right _ (by omega)
  rw [tot_cons]
  omega
theorem shp_most {r : List Nat} {rs : List (List Nat)} (h : Shp 1 1 (r :: rs)) {k : Nat} (hk : (tot (r :: rs) + 1) / 2 / 4 ^ k = 0) : rs.length < k := by
  have h1 := shp_few h
  have h2 : (tot (r :: rs) + 1) / 2 < 4 ^ k := by
    rcases Nat.lt_or_ge ((tot (r :: rs) + 1) / 2) (4 ^ k) with g | g
    · exact g
    · have := Nat.div_pos g (Nat.pow_pos (by omega))
      omega
  exact (Nat.pow_lt_pow_iff_right (by omega)).1 (Nat.lt_of_le_of_lt h1 h2)
/-- A node's count, its children. -/
def cnt (M : Nat → Option Nd) (k : Nat) : Nat := ((M k).map fun n => n.its.length).getD 0
def kidsOf (M : Nat → Option Nd) (k : Nat) : List Nat := ((M k).map fun n => n.ks).getD []
def lens (ls : List (List It)) : Nat := (ls.map List.length).sum
theorem lens_append (a b : List (List It)) : lens (a ++ b) = lens a + lens b := by simp [lens]
theorem lens_cons (a : List It) (b : List (List It)) : lens (a :: b) = a.length + lens b := by simp [lens]
theorem weave_len : ∀ (I : List It) (L : List (List It)), (weave I L).length = I.length + lens L
  | [], L => by simp [weave, lens, List.length_flatten]
  | x :: I, [] => by rw [weave_nil]; simp [lens]
  | x :: I, l :: L => by
    have := weave_len I L
    rw [weave, List.length_append, List.length_cons, this, lens_cons, List.length_cons]
    omega
/-- What lies in the next row. -/
theorem Kids.next {M : Nat → Option Nd} {h m : Nat} : ∀ {ks : List Nat} {ls : List (List It)} {F : Nat → Prop}, Kids (Nod M (h + 1) m 7) ks ls F →
    ∃ ls' F', Kids (Nod M h 3 7) (ks.flatMap (kidsOf M)) ls' F' ∧ (∀ x, F' x → F x) ∧ lens ls = (ks.map (cnt M)).sum + lens ls' ∧ (∀ k ∈ ks, ∃ n, M k = some n ∧ m ≤ n.its.length ∧ n.its.length ≤ 7 ∧ (h = 0 → n.ks = []) ∧ (h ≠ 0 → n.ks.length = n.its.length + 1))
  | [], [], F, hK => ⟨[], F, hK, fun _ h => h, rfl, fun k hk => by cases hk⟩
  | [], _ :: _, _, hK => hK.elim
  | _ :: _, [], _, hK => hK.elim
  | k :: ks, l :: ls, F, ⟨Fk, Fr, g1, g2, g3, g4⟩ => by
    obtain ⟨ls', F', r1, r2, r4, r3⟩ := Kids.next g2
    obtain ⟨n, lsn, Fn, b0, b1, b2, b3, b4, b5, b6, b7, b8⟩ := g1
    have hk : kidsOf M k = n.ks := by simp [kidsOf, b0]
    refine ⟨lsn ++ ls', fun x => Fn x ∨ F' x, ?_, fun x hx => ?_, ?_, fun y hy => ?_⟩
    · rw [List.flatMap_cons, hk]
      exact b5.append r1 fun x hx g => g3 x ((b8 x).2 (.inr hx)) (r2 x g)
    · exact (g4 x).2 (hx.imp (fun g => (b8 x).2 (.inr g)) (r2 x))
    · have hc : cnt M k = n.its.length := by simp [cnt, b0]
      rw [lens_cons, b6, weave_len, lens_append, List.map_cons, List.sum_cons, hc, r4]
      omega
    · rcases List.mem_cons.1 hy with rfl | hy
      · exact ⟨n, b0, b1, b2, b3, b4⟩
      · exact r3 y hy
/-- The rows below a row. -/
def rowsOf (M : Nat → Option Nd) : Nat → List Nat → List (List Nat)
  | 0, _ => []
  | h + 1, ks => ks.map (cnt M) :: rowsOf M h (ks.flatMap (kidsOf M))
theorem kids_len {M : Nat → Option Nd} : ∀ {ks : List Nat}, (∀ k ∈ ks, (kidsOf M k).length = cnt M k + 1) → (ks.flatMap (kidsOf M)).length = (ks.map (cnt M)).sum + (ks.map (cnt M)).length
  | [], _ => rfl
  | k :: ks, h => by
    have ih := kids_len (ks := ks) fun x hx => h x (List.mem_cons_of_mem _ hx)
    have := h k List.mem_cons_self
    rw [List.flatMap_cons, List.length_append, ih, this, List.map_cons, List.sum_cons, List.length_cons]
    omega
theorem rows_shp {M : Nat → Option Nd} : ∀ {h m : Nat} {ks : List Nat} {ls : List (List It)} {F : Nat → Prop}, Kids (Nod M h m 7) ks ls F → Shp ks.length m (rowsOf M h ks)
  | 0, _, _, _, _, _ => trivial
  | h + 1, m, ks, ls, F, hK => by
    obtain ⟨ls', F', r1, r2, _, r3⟩ := hK.next
    refine ⟨by simp, fun c hc => ?_, ?_⟩
    · obtain ⟨k, hk, rfl⟩ := List.mem_map.1 hc
      obtain ⟨n, e, g1, g2, _⟩ := r3 k hk
      simp only [cnt, e]
      exact ⟨g1, g2⟩
    · by_cases hz : h = 0
      · subst hz; trivial
      · have := rows_shp r1
        rw [kids_len fun k hk => ?_] at this
        · exact this
        · obtain ⟨n, e, _, _, _, g3⟩ := r3 k hk
          simp only [kidsOf, cnt, e]
          exact g3 hz
theorem rows_tot {M : Nat → Option Nd} : ∀ {h m : Nat} {ks : List Nat} {ls : List (List It)} {F : Nat → Prop}, Kids (Nod M h m 7) ks ls F → tot (rowsOf M h ks) = lens ls
  | 0, _, [], [], _, _ => rfl
  | 0, _, [], _ :: _, _, hK => hK.elim
  | 0, _, _ :: _, [], _, hK => hK.elim
  | 0, _, _ :: _, _ :: _, _, ⟨_, _, g, _⟩ => g.elim
  | h + 1, m, ks, ls, F, hK => by
    obtain ⟨ls', F', r1, _, r4, _⟩ := hK.next
    rw [rowsOf, tot_cons, rows_tot r1, r4]
/-- The rows of a tree. -/
theorem rows_of {M : Nat → Option Nd} {h q : Nat} {l : List It} {F : Nat → Prop} (hN : Nod M (h + 1) 1 7 q l F) : Shp 1 1 (rowsOf M (h + 1) [q]) ∧ tot (rowsOf M (h + 1) [q]) = l.length :=
  ⟨rows_shp (kids_one hN), by rw [rows_tot (kids_one hN), lens_cons]; rfl⟩
end Go.Proofs.Ytlpkpookheafpaa

namespace Go.Proofs.Ytlpkpookheafpaa
open Go.RowKit Go.Sort

theorem asRow_none (w : World) : Calls Try.prog 37 #[.pointer none] w fun e w' => e = .returned (.slice none 0 0) ∧ w' = w := by
  go_enter Try.func37, Try.ntmps37
  go_wp2_with fail
  go_ret
  exact ⟨rfl, rfl⟩
set_option maxRecDepth 100000 in
theorem asRow_ (w : World) (q : Nat) : Calls Try.prog 37 #[.pointer (some ⟨q, 0, none⟩)] w fun e w' => e = .returned (.slice (some ⟨w.heap.size, 0, none⟩) 1 1) ∧ Below w.heap.size w w' ∧ RowP w' (.slice (some ⟨w.heap.size, 0, none⟩) 1 1) [q] := by
  obtain ⟨U, hU⟩ : ∃ U, U = w.alloc (.cells (cP [q]).toArray 52) := ⟨_, rfl⟩
  have hrb : Hid (∀ (a : Act) (o : Oper) (z : Operand), o.op = .buildSlice 56 1 #[(0, z)] → a.eval z = pt q → (execOp a.eval o).run Try.prog w = .ok (.value (.slice (some ⟨w.heap.size, 0, none⟩) 1 1)) U) := fun a o z h1 h2 => by rw [hU]; exact run_buildP w q a o z h1 h2
  have HB : Hid (Below w.heap.size w U ∧ RowP U (.slice (some ⟨w.heap.size, 0, none⟩) 1 1) [q]) := by
    show _ ∧ _
    rw [hU]
    exact ⟨below_alloc w _, row_mk (new_blk w _) (Nat.le_refl _) (by decide) rfl rfl⟩
  clear hU
  go_enter Try.func37, Try.ntmps37
  go_wp2_with (first
    | (refine wpList_exec rfl (hrb.out _ _ _ rfl rfl) ?_)
    | fail)
  go_ret
  exact ⟨rfl, HB.out⟩
end Go.Proofs.Ytlpkpookheafpaa

namespace Go.Proofs.Ytlpkpookheafpaa
open Go.RowKit Go.Sort

def cN (l : List Nat) : List Value := l.map fun (x : Nat) => .int .i64 (x : Int)
theorem cN_len (l : List Nat) : (cN l).length = l.length * 1 := by simp [cN]
theorem cN_append (a b : List Nat) : cN (a ++ b) = cN a ++ cN b := by simp [cN]
def RowN (w : World) (B : Nat) (v : Value) (l : List Nat) : Prop := w.ownsRow B 3 1 v l.length (cN l)
def RowQ (w : World) (B : Nat) (v : Value) (l : List Nat) : Prop := w.ownsRow B 52 1 v l.length (cP l)
def RowV (w : World) (B : Nat) (v : Value) (l : List Value) : Prop := w.ownsRow B 72 1 v l.length l
theorem infoN : (Try.prog.info? 3).map (fun i => (i.zero, i.size, i.bytes)) = some (some (.int .i64 0), 1, 8) := by kernel_rfl
theorem infoNs : (Try.prog.info? 72).map (fun i => (i.zero, i.size, i.bytes)) = some (some (.slice none 0 0), 1, 24) := by kernel_rfl
theorem row_base {w : World} {B B' e s n : Nat} {v : Value} {xs : List Value} (h : w.ownsRow B e s v n xs) (hB : B' ≤ B) : w.ownsRow B' e s v n xs := by
  refine ⟨h.1, ?_⟩
  rcases h.2 with h1 | ⟨g, cap, cur, rfl, h1, h2⟩
  · exact .inl h1
  · exact .inr ⟨g, cap, cur, rfl, Nat.le_trans hB h1, h2⟩
theorem row_low {w : World} {B e s n : Nat} {v : Value} {xs : List Value} (h : w.ownsRow B e s v n xs) {g : Nat} (hg : v.ownBlock = some g) : B ≤ g := by
  rcases h.2 with ⟨e1, _⟩ | ⟨g', cap, cur, e1, h1, _⟩
  · rw [e1] at hg; cases hg
  · rw [e1] at hg
    simp only [Value.ownBlock, Option.some.injEq] at hg
    omega
/-- What lies below a row's base stays while it grows. -/
theorem below_grown {w w' : World} {B e s n : Nat} {v : Value} {xs : List Value} (h : w.ownsRow B e s v n xs) (hB : B ≤ w.heap.size) (hg : w.grownBy w' v.ownBlock) : Below B w w' :=
  ⟨hg.os, hg.tape, hg.output, hg.size, fun k hk => hg.block k (by omega) fun q => by have := row_low h q.symm; omega⟩
/-- A row beside one of another type that grows. -/
theorem row_beside {w w' : World} {B1 B2 t1 t2 s1 s2 n1 n2 : Nat} {v1 v2 : Value} {l1 l2 : List Value} (h1 : w.ownsRow B1 t1 s1 v1 n1 l1) (h2 : w.ownsRow B2 t2 s2 v2 n2 l2) (hne : t1 ≠ t2) (hg : w.grownBy w' v2.ownBlock) : w'.ownsRow B1 t1 s1 v1 n1 l1 :=
  row_keep h1 fun g hv => by
    obtain ⟨c1, k1⟩ := row_block h1 hv
    refine hg.block g (blk_lt k1) fun q => ?_
    obtain ⟨c2, k2⟩ := row_block h2 q.symm
    exact kind_ne k1 k2 hne rfl
/-- What the inner loop of Shape has made. -/
structure In2 (WI W : World) (cv bv : Value) (es ps : List Nat) : Prop where
  below : Below WI.heap.size WI W
  cs : RowN W WI.heap.size cv es
  bs : RowQ W WI.heap.size bv ps
theorem In2.on {WI W W' : World} {cv bv : Value} {es ps : List Nat} (h : In2 WI W cv bv es ps) (hb : Below W.heap.size W W') : In2 WI W' cv bv es ps := ⟨below_step h.below hb, row_on h.cs hb, row_on h.bs hb⟩
theorem in2_nil (WI : World) : In2 WI WI (.slice none 0 0) (.slice none 0 0) [] [] := ⟨Below.refl _ _, World.ownsRow_nil _ _ _ _, World.ownsRow_nil _ _ _ _⟩
theorem below_low {w w1 w2 : World} (h : Below w.heap.size w w1) (k : Below w.heap.size w1 w2) : Below w.heap.size w w2 := h.trans k
/-- One number more. -/
theorem In2.num {WI U : World} {cv bv : Value} {es ps : List Nat} (h : In2 WI U cv bv es ps) (hl : es.length ≤ 100000) {b k : Nat} (hb : U.heap[b]? = some (.cells #[.int .i64 k] 3 (0, 0))) (ty : TypeId) :
    ∃ a m c V, (Builtin.append_ #[72, 72] ty #[cv, .slice (some ⟨b, 0, none⟩) 1 1]).run Try.prog U = .ok (.slice a m c) V ∧ In2 WI V (.slice a m c) bv (es ++ [k]) ps := by
  obtain ⟨i0, hi0, hz0, hz1, hz2⟩ := info_parts infoN
  obtain ⟨v', w', hr, h2, h3, _, h5⟩ := run_append_own_at (P := Try.prog) U WI.heap.size 72 ty 3 i0 _ 1 8 Try.underlying72 hi0 hz0 hz1 hz2 rfl (by decide) cv es.length _ h.cs ⟨b, 0, none⟩ 1 1 [.int .i64 k] rfl (fun j u hj => by
    match j, hj with
    | 0, hj => cases hj; rw [Addr.add_lit, Nat.add_zero]; exact cell_of hb rfl) (fun u hu => by rw [List.mem_singleton.1 hu]; rfl) (by unfold maxLen; omega) (by omega) h.below.size
  have h2' : RowN w' WI.heap.size v' (es ++ [k]) := by
    unfold RowN
    rw [List.length_append, cN_append]
    exact h2
  obtain ⟨a, c, rfl, _⟩ := row_shape h2'
  exact ⟨a, _, c, w', hr, below_low h.below (below_grown h.cs h.below.size h3), h2', row_beside h.bs h.cs (by decide) h3⟩
/-- A node's children more. -/
theorem In2.kids {WI V : World} {cv bv v : Value} {es ps xs : List Nat} (h : In2 WI V cv bv es ps) (hl : ps.length + xs.length ≤ 100000) (hr : RowP V v xs) (ty : TypeId) :
    ∃ a m c V1, (Builtin.append_ #[56, 56] ty #[bv, v]).run Try.prog V = .ok (.slice a m c) V1 ∧ In2 WI V1 cv (.slice a m c) es (ps ++ xs) := by
  obtain ⟨i0, hi0, hz0, hz1, hz2⟩ := info_parts infoVP
  rcases hr.2 with ⟨rfl, e⟩ | ⟨g, cap, cur, rfl, _, hg, _, _, _, hx⟩
  · have hx : xs = [] := List.eq_nil_of_length_eq_zero e
    subst hx
    have hap := run_append_owned_none (P := Try.prog) V WI.heap.size 56 ty 52 i0 1 Try.underlying56 hi0 _ _ _ h.bs
    obtain ⟨a, c, rfl, _⟩ := row_shape h.bs
    exact ⟨a, _, c, V, hap, by rw [List.append_nil]; exact h⟩
  · obtain ⟨v', w', hr, h2, h3, _, h5⟩ := run_append_own_at (P := Try.prog) V WI.heap.size 56 ty 52 i0 _ 1 8 Try.underlying56 hi0 hz0 hz1 hz2 rfl (by decide) bv ps.length _ h.bs ⟨g, 0, none⟩ xs.length cap (cP xs) (cP_len xs) (fun j u hj => by
      rw [Addr.add_lit, Nat.zero_add]
      refine cell_of hg ?_
      rw [← hx, List.getElem?_take] at hj
      split at hj
      · simpa using hj
      · cases hj) (cP_one _) (by unfold maxLen; omega) (by omega) h.below.size
    have h2' : RowQ w' WI.heap.size v' (ps ++ xs) := by
      unfold RowQ
      rw [List.length_append, cP_append]
      exact h2
    obtain ⟨a, c, rfl, _⟩ := row_shape h2'
    exact ⟨a, _, c, w', hr, below_low h.below (below_grown h.bs h.below.size h3), row_beside h.cs h.bs (by decide) h3, h2'⟩
/-- Rows of numbers, in a row of one's own. -/
def RowsN (w : World) (B : Nat) (v : Value) (nss : List (List Nat)) : Prop := ∃ vs : List Value, RowV w B v vs ∧ vs.length = nss.length ∧ ∀ (i : Nat) (ns : List Nat), nss[i]? = some ns → ∃ u, vs[i]? = some u ∧ RowN w 0 u ns
theorem RowsN.on {w w' : World} {B : Nat} {v : Value} {nss : List (List Nat)} (h : RowsN w B v nss) (hb : Below w.heap.size w w') : RowsN w' B v nss := by
  obtain ⟨vs, h1, h2, h3⟩ := h
  exact ⟨vs, row_on h1 hb, h2, fun i ns hi => by obtain ⟨u, g1, g2⟩ := h3 i ns hi; exact ⟨u, g1, row_on g2 hb⟩⟩
theorem rowsN_nil (w : World) (B : Nat) : RowsN w B (.slice none 0 0) [] := ⟨[], World.ownsRow_nil _ _ _ _, rfl, fun i ns hi => by simp at hi⟩
theorem RowsN.shape {w : World} {B : Nat} {v : Value} {nss : List (List Nat)} (h : RowsN w B v nss) : ∃ a c, v = .slice a nss.length c := by
  obtain ⟨vs, h1, h2, h3⟩ := h
  obtain ⟨a, c, e, _⟩ := row_shape h1
  exact ⟨a, c, by rw [e, h2]⟩
/-- One row more. -/
theorem RowsN.snoc {w U : World} {B : Nat} {v u : Value} {nss : List (List Nat)} {ns : List Nat} (hB : B ≤ U.heap.size) (h : RowsN U B v nss) (hl : nss.length ≤ 100000) {b : Nat} (hb : U.heap[b]? = some (.cells #[u] 72 (0, 0))) (hu : RowN U 0 u ns) (hbl : Below B w U) (ty : TypeId) :
    ∃ a m c V, (Builtin.append_ #[48, 48] ty #[v, .slice (some ⟨b, 0, none⟩) 1 1]).run Try.prog U = .ok (.slice a m c) V ∧ RowsN V B (.slice a m c) (nss ++ [ns]) ∧ Below B w V ∧ ∀ B' bv ps, RowQ U B' bv ps → RowQ V B' bv ps := by
  obtain ⟨vs, h1, h2, h3⟩ := h
  have hu1 : u.oneCell' = true := by
    obtain ⟨a, c, e, _⟩ := row_shape hu
    rw [e]; rfl
  obtain ⟨i0, hi0, hz0, hz1, hz2⟩ := info_parts infoNs
  obtain ⟨v', w', hr, g2, g3, _, g5⟩ := run_append_own_at (P := Try.prog) U B 48 ty 72 i0 _ 1 24 Try.underlying48 hi0 hz0 hz1 hz2 rfl (by decide) v vs.length _ h1 ⟨b, 0, none⟩ 1 1 [u] rfl (fun j x hj => by
    match j, hj with
    | 0, hj => cases hj; rw [Addr.add_lit, Nat.add_zero]; exact cell_of hb rfl) (fun x hx => by rw [List.mem_singleton.1 hx]; exact hu1) (by unfold maxLen; omega) (by omega) hB
  have g2' : RowV w' B v' (vs ++ [u]) := by
    unfold RowV
    rw [List.length_append]
    exact g2
  obtain ⟨a, c, rfl, _⟩ := row_shape g2'
  refine ⟨a, _, c, w', hr, ⟨vs ++ [u], g2', by simp [h2], fun i ms hi => ?_⟩, hbl.trans (below_grown h1 hB g3), fun B' bv ps hq => row_beside hq h1 (by decide) g3⟩
  rcases Nat.lt_or_ge i nss.length with hlt | hge
  · rw [List.getElem?_append_left hlt] at hi
    obtain ⟨x, k1, k2⟩ := h3 i ms hi
    exact ⟨x, by rw [List.getElem?_append_left (by omega)]; exact k1, row_beside k2 h1 (by decide) g3⟩
  · rw [List.getElem?_append_right hge] at hi
    have h0 : i - nss.length = 0 := by
      rcases Nat.eq_zero_or_pos (i - nss.length) with e | e
      · exact e
      · rw [List.getElem?_eq_none (by simp; omega)] at hi; cases hi
    rw [h0] at hi
    simp at hi
    subst hi
    exact ⟨u, by rw [List.getElem?_append_right (by omega), show i - vs.length = 0 by omega]; rfl, row_beside hu h1 (by decide) g3⟩
theorem run_buildN (w : World) (k : Int) (a : Act) (o : Oper) (y : Operand) (h : o.op = .buildSlice 72 1 #[(0, y)]) (hy : a.eval y = .int .i64 k) : (execOp a.eval o).run Try.prog w = .ok (.value (.slice (some ⟨w.heap.size, 0, none⟩) 1 1)) (w.alloc (.cells #[.int .i64 k] 3)) := by
  unfold execOp
  simp only [h, List.map_toArray, List.map_cons, List.map_nil, hy]
  simp [Instr.buildSlice, go_sem]
theorem run_buildNs (w : World) (b : Option Addr) (m c : Nat) (a : Act) (o : Oper) (y : Operand) (h : o.op = .buildSlice 48 1 #[(0, y)]) (hy : a.eval y = .slice b m c) : (execOp a.eval o).run Try.prog w = .ok (.value (.slice (some ⟨w.heap.size, 0, none⟩) 1 1)) (w.alloc (.cells #[.slice b m c] 72)) := by
  unfold execOp
  simp only [h, List.map_toArray, List.map_cons, List.map_nil, hy]
  simp [Instr.buildSlice, go_sem]
/-- A node among those of a row. -/
theorem RowQ.get {w : World} {B : Nat} {v : Value} {l : List Nat} (h : RowQ w B v l) {i q : Nat} (hi : l[i]? = some q) : ∃ g c, v = .slice (some ⟨g, 0, none⟩) l.length c ∧ g < w.heap.size ∧ w.cell? ⟨g, i, none⟩ = some (.pointer (some ⟨q, 0, none⟩)) := by
  have hl : i < l.length := (List.getElem?_eq_some_iff.1 hi).1
  obtain ⟨g, c, cur, e, hg, _, _, _, hx⟩ := row_open h (by omega)
  refine ⟨g, c, e, blk_lt hg, cell_of hg ?_⟩
  have := cP_get l i q hi
  rw [← hx, List.getElem?_take] at this
  split at this
  · simpa [pt] using this
  · cases this
/-- Numbers behind a slice; rows of them. -/
def NumsIn (w : World) (a : Option Addr) (ns : List Nat) : Prop := ∀ (j x : Nat), ns[j]? = some x → ∃ g : Nat, a = some ⟨g, 0, none⟩ ∧ w.cell? ⟨g, j, none⟩ = some (.int .i64 (x : Int))
def RowsIn (w : World) (a : Option Addr) (nss : List (List Nat)) : Prop := ∀ (i : Nat) (ns : List Nat), nss[i]? = some ns → ∃ g a2 c2, a = some ⟨g, 0, none⟩ ∧ w.cell? ⟨g, i, none⟩ = some (.slice a2 ns.length c2) ∧ NumsIn w a2 ns
theorem RowN.nums {w : World} {B : Nat} {v : Value} {ns : List Nat} (h : RowN w B v ns) : ∃ a c, v = .slice a ns.length c ∧ NumsIn w a ns := by
  obtain ⟨a, c, rfl, _⟩ := row_shape h
  refine ⟨a, c, rfl, fun j x hj => ?_⟩
  have hl : j < ns.length := (List.getElem?_eq_some_iff.1 hj).1
  obtain ⟨g, c', cur, e, hg, _, _, _, hx⟩ := row_open h (by omega)
  cases e
  refine ⟨g, rfl, cell_of hg ?_⟩
  have : (cN ns)[j]? = some (.int .i64 (x : Int)) := by simp [cN, hj]
  rw [← hx, List.getElem?_take] at this
  split at this
  · simpa using this
  · cases this
theorem RowsN.rows {w : World} {B : Nat} {v : Value} {nss : List (List Nat)} (h : RowsN w B v nss) : ∃ a c, v = .slice a nss.length c ∧ RowsIn w a nss := by
  obtain ⟨a, c, rfl⟩ := h.shape
  obtain ⟨vs, h1, h2, h3⟩ := h
  refine ⟨a, c, rfl, fun i ns hi => ?_⟩
  obtain ⟨u, k1, k2⟩ := h3 i ns hi
  have hl : i < vs.length := (List.getElem?_eq_some_iff.1 k1).1
  obtain ⟨g, c', cur, e, hg, _, _, _, hx⟩ := row_open h1 (by omega)
  simp only [Value.slice.injEq] at e
  obtain ⟨rfl, _, _⟩ := e
  obtain ⟨a2, c2, rfl, k3⟩ := k2.nums
  refine ⟨g, a2, c2, rfl, cell_of hg ?_, k3⟩
  rw [← hx, List.getElem?_take] at k1
  split at k1
  · simpa using k1
  · cases k1
end Go.Proofs.Ytlpkpookheafpaa
