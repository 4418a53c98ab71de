/- Tree.Shape. -/
import Derived.Test.YtlpkpookheafpaaShMem
namespace Go.Proofs.Ytlpkpookheafpaa
open Go.RowKit Go.Sort

theorem kids_le {M : Nat → Option Nd} {h m : Nat} {ks : List Nat} {ls : List (List It)} {F : Nat → Prop} (hK : Kids (Nod M h m 7) ks ls F) (hm : 1 ≤ m) : ks.length ≤ lens ls := by
  cases h with
  | zero =>
    cases ks with
    | nil => exact Nat.zero_le _
    | cons k ks =>
      cases ls with
      | nil => exact hK.elim
      | cons l ls =>
        obtain ⟨_, _, g, _⟩ := hK
        exact g.elim
  | succ h =>
    obtain ⟨ls', F', r1, r2, r4, r3⟩ := hK.next
    have := sum_ge (m := m) (r := ks.map (cnt M)) (fun c hc => by
      obtain ⟨k, hk, rfl⟩ := List.mem_map.1 hc
      obtain ⟨n, e, g1, g2, _⟩ := r3 k hk
      simp only [cnt, e]
      exact ⟨g1, g2⟩)
    rw [List.length_map] at this
    have : ks.length * 1 ≤ ks.length * m := Nat.mul_le_mul_left _ hm
    omega
/-- Where Shape stands: rows that are told, the row that comes. -/
structure Sh (w0 wr : World) (M : Nat → Option Nd) (R : List (List Nat)) (v3 v4 : Value) (h : Nat) (ks : List Nat) (done : List (List Nat)) : Prop where
  kids : ∃ m ls F, 1 ≤ m ∧ Kids (Nod M h m 7) ks ls F ∧ lens ls ≤ 1000
  ne : h ≠ 0 → ks ≠ []
  all : R = done ++ rowsOf M h ks
  st : Store w0 M
  below : Below w0.heap.size w0 wr
  shp : RowsN wr w0.heap.size v3 done
  row : RowQ wr w0.heap.size v4 ks
theorem Sh.end {w0 wr : World} {M : Nat → Option Nd} {R : List (List Nat)} {v3 v4 : Value} {ks : List Nat} {done : List (List Nat)} (h : Sh w0 wr M R v3 v4 0 ks done) : ks = [] ∧ R = done := by
  obtain ⟨m, ls, F, h1, h2, h3⟩ := h.kids
  refine ⟨?_, by rw [h.all, rowsOf, List.append_nil]⟩
  cases ks with
  | nil => rfl
  | cons k ks =>
    cases ls with
    | nil => exact h2.elim
    | cons l ls =>
      obtain ⟨_, _, g, _⟩ := h2
      exact g.elim
theorem flatMap_take_le {M : Nat → Option Nd} (ks : List Nat) (i : Nat) : ((ks.take i).flatMap (kidsOf M)).length ≤ (ks.flatMap (kidsOf M)).length := by
  have h : ks.flatMap (kidsOf M) = (ks.take i).flatMap (kidsOf M) ++ (ks.drop i).flatMap (kidsOf M) := by rw [← List.flatMap_append, List.take_append_drop]
  rw [h, List.length_append]
  omega
/-- A round of the inner loop. -/
theorem sh_step {w0 wr wi : World} {M : Nat → Option Nd} {R : List (List Nat)} {v3 v4 v5 v6 : Value} {h : Nat} {ks : List Nat} {done : List (List Nat)} (hS : Sh w0 wr M R v3 v4 (h + 1) ks done) {i : Nat} (hi : i < ks.length)
    (hI : In2 wr wi v5 v6 ((ks.take i).map (cnt M)) ((ks.take i).flatMap (kidsOf M))) :
    ∃ q g c4 nl ai ci ak mk ck, v4 = .slice (some ⟨g, 0, none⟩) ks.length c4 ∧ wi.cell? ⟨g, i, none⟩ = some (.pointer (some ⟨q, 0, none⟩)) ∧ wi.cell? ⟨q, 0, none⟩ = some (.slice ai nl ci) ∧
      ∃ U, (∀ (a : Act) (o : Oper) (z : Operand), o.op = .buildSlice 72 1 #[(0, z)] → a.eval z = .int .i64 (nl : Nat) → (execOp a.eval o).run Try.prog wi = .ok (.value (.slice (some ⟨wi.heap.size, 0, none⟩) 1 1)) U) ∧
      ∃ a5 m5 c5 V1, (Builtin.append_ #[72, 72] 72 #[v5, .slice (some ⟨wi.heap.size, 0, none⟩) 1 1]).run Try.prog U = .ok (.slice a5 m5 c5) V1 ∧ V1.cell? ⟨q, 1, none⟩ = some (.slice ak mk ck) ∧
      ∃ a6 m6 c6 V2, (Builtin.append_ #[56, 56] 56 #[v6, .slice ak mk ck]).run Try.prog V1 = .ok (.slice a6 m6 c6) V2 ∧ In2 wr V2 (.slice a5 m5 c5) (.slice a6 m6 c6) ((ks.take (i + 1)).map (cnt M)) ((ks.take (i + 1)).flatMap (kidsOf M)) := by
  obtain ⟨m, ls, F, h1, h2, h3⟩ := hS.kids
  obtain ⟨ls', F', r1, r2, r4, r3⟩ := h2.next
  obtain ⟨q, hq⟩ := getElem?_of_lt hi
  obtain ⟨n, hn, g1, g2, _⟩ := r3 q (List.mem_of_getElem? hq)
  have hst := (hS.st.on hS.below).on hI.below
  obtain ⟨g, c4, e4, hgl, hgc⟩ := hS.row.get hq
  obtain ⟨ai, ci, eiv, _⟩ := row_shape (hst.its q n hn)
  obtain ⟨ak, ck, ekv, _⟩ := row_shape (hst.ks q n hn)
  have hc0 := (hst.cells hn).1
  rw [eiv] at hc0
  have hbU := below_alloc wi (.cells #[.int .i64 (n.its.length : Nat)] 3)
  have htk : ks.take (i + 1) = ks.take i ++ [q] := by rw [List.take_add_one, hq]; rfl
  have hle := kids_le h2 h1
  have hle2 := kids_le r1 (by omega)
  have hfl := flatMap_take_le (M := M) ks (i + 1)
  obtain ⟨a5, m5, c5, V1, hap5, hI1⟩ := (hI.on hbU).num (by rw [List.length_map, List.length_take]; omega) (k := n.its.length) (new_blk wi _) 72
  have hst1 := (hS.st.on hS.below).on hI1.below
  have hc1 := (hst1.cells hn).2.1
  rw [ekv] at hc1
  obtain ⟨a6, m6, c6, V2, hap6, hI2⟩ := hI1.kids (by
    rw [htk, List.flatMap_append, List.length_append, List.flatMap_singleton] at hfl
    have : kidsOf M q = n.ks := by simp [kidsOf, hn]
    rw [this] at hfl
    omega) (hst1.ks q n hn) 56
  rw [ekv] at hap6
  refine ⟨q, g, c4, n.its.length, ai, ci, ak, _, ck, e4, (hI.below.cell hgl).trans hgc, hc0, _, fun a o z k1 k2 => run_buildN wi _ a o z k1 k2, a5, m5, c5, V1, hap5, hc1, a6, m6, c6, V2, hap6, ?_⟩
  have e1 : (ks.take (i + 1)).map (cnt M) = (ks.take i).map (cnt M) ++ [n.its.length] := by rw [htk, List.map_append]; simp [cnt, hn]
  have e2 : (ks.take (i + 1)).flatMap (kidsOf M) = (ks.take i).flatMap (kidsOf M) ++ n.ks := by rw [htk, List.flatMap_append]; simp [kidsOf, hn]
  rw [e1, e2]
  exact hI2
/-- The end of a round of the outer loop. -/
theorem sh_next {w0 wr wi : World} {M : Nat → Option Nd} {R : List (List Nat)} {v3 v4 v6 : Value} {a5 : Option Addr} {m5 c5 h : Nat} {ks : List Nat} {done : List (List Nat)} (hS : Sh w0 wr M R v3 v4 (h + 1) ks done) (hR : R.length ≤ 1000)
    (hI : In2 wr wi (.slice a5 m5 c5) v6 ((ks.take ks.length).map (cnt M)) ((ks.take ks.length).flatMap (kidsOf M))) :
    ∃ U, (∀ (a : Act) (o : Oper) (z : Operand), o.op = .buildSlice 48 1 #[(0, z)] → a.eval z = .slice a5 m5 c5 → (execOp a.eval o).run Try.prog wi = .ok (.value (.slice (some ⟨wi.heap.size, 0, none⟩) 1 1)) U) ∧
      ∃ a3 m3 c3 V, (Builtin.append_ #[48, 48] 48 #[v3, .slice (some ⟨wi.heap.size, 0, none⟩) 1 1]).run Try.prog U = .ok (.slice a3 m3 c3) V ∧ ∃ ks' done', Sh w0 V M R (.slice a3 m3 c3) v6 h ks' done' := by
  rw [List.take_length] at hI
  obtain ⟨m, ls, F, h1, h2, h3⟩ := hS.kids
  obtain ⟨ls', F', r1, r2, r4, r3⟩ := h2.next
  have hbU := below_alloc wi (.cells #[.slice a5 m5 c5] 72)
  have hb0 := below_step (below_step hS.below hI.below) hbU
  have hall : R = (done ++ [ks.map (cnt M)]) ++ rowsOf M h (ks.flatMap (kidsOf M)) := by rw [hS.all, rowsOf]; simp
  have hdl : done.length ≤ 1000 := by rw [hall] at hR; simp at hR; omega
  obtain ⟨a3, m3, c3, V, hap, k1, k2, k3⟩ := RowsN.snoc (w := w0) (B := w0.heap.size) (ns := ks.map (cnt M)) hb0.size (hS.shp.on (below_step hI.below hbU)) (by omega) (new_blk wi _) (row_base (row_on hI.cs hbU) (Nat.zero_le _)) hb0 48
  refine ⟨_, fun a o z k1 k2 => run_buildNs wi _ _ _ a o z k1 k2, a3, m3, c3, V, hap, ks.flatMap (kidsOf M), done ++ [ks.map (cnt M)], ⟨⟨3, ls', F', by omega, r1, by omega⟩, fun h0 => ?_, hall, hS.st, k2, k1, row_base (k3 _ _ _ (row_on hI.bs hbU)) hS.below.size⟩⟩
  have hne := hS.ne (by omega)
  intro hnil
  cases ks with
  | nil => exact hne rfl
  | cons k ks =>
    obtain ⟨n, e, _, _, _, g4⟩ := r3 k List.mem_cons_self
    have := g4 h0
    rw [List.flatMap_cons, show kidsOf M k = n.ks by simp [kidsOf, e]] at hnil
    rw [(List.append_eq_nil_iff.1 hnil).1] at this
    simp at this
set_option maxRecDepth 100000 in
set_option maxHeartbeats 2000000 in
theorem shape_walk {w0 : World} {M : Nat → Option Nd} {R : List (List Nat)} {p H : Nat} {q : Option Addr} (hR : R.length ≤ 1000)
    (HT : Hid (Calls Try.prog 29 #[.pointer (some ⟨p, 0, none⟩)] w0 fun e w' => e = .returned (.pointer q) ∧ w' = w0))
    (HA : Hid (Calls Try.prog 37 #[.pointer q] w0 fun e w1 => ∃ a m c, e = .returned (.slice a m c) ∧ Hid (∃ ks done, Sh w0 w1 M R (.slice none 0 0) (.slice a m c) H ks done))) :
    Calls Try.prog 21 #[.pointer (some ⟨p, 0, none⟩)] w0 fun e w' => ∃ a m c, e = .returned (.slice a m c) ∧ Hid (RowsN w' w0.heap.size (.slice a m c) R ∧ Below w0.heap.size w0 w') := by
  have HRl := Lib.hid hR
  clear hR
  go_enter Try.func21, Try.ntmps21
  go_wp2_with (first
    | (go_at_call 29; refine HT.out.mono ?_; rintro e w9 ⟨rfl, rfl⟩)
    | (go_at_call 37; refine HA.out.mono ?_; rintro e w1 ⟨a1, m1, c1, rfl, H1⟩)
    | fail)
  clear HT HA
  go_loopg [3, 4] H (fun kx s3 s4 wr => ∃ (a3 : Option Addr) (m3 c3 : Nat) (a4 : Option Addr) (m4 c4 h : Nat), s3 = .slice a3 m3 c3 ∧ s4 = .slice a4 m4 c4 ∧ h ≤ kx ∧ Hid (∃ ks done, Sh w9 wr M R (.slice a3 m3 c3) (.slice a4 m4 c4) h ks done))
  case atStart => exact ⟨none, 0, 0, a1, m1, c1, H, rfl, rfl, Nat.le_refl _, H1⟩
  case round =>
    clear H1
    obtain ⟨a3, m3, c3, a4, m4, c4, h, rfl, rfl, hk, HS0⟩ := hrel
    obtain ⟨ks, done, hS⟩ := HS0.out
    clear HS0
    have hm4 : m4 = ks.length := by
      obtain ⟨a, c, e, _⟩ := row_shape hS.row
      cases e
      rfl
    cases h with
    | zero =>
      obtain ⟨e1, e2⟩ := hS.end
      have HF : Hid (RowsN wr w9.heap.size (.slice a3 m3 c3) R ∧ Below w9.heap.size w9 wr) := by
        show _ ∧ _
        rw [e2]
        exact ⟨hS.shp, hS.below⟩
      have h0 : m4 = 0 := by rw [hm4, e1]; rfl
      subst h0
      clear hS hm4 e1 e2 HRl
      go_wp2_with fail
      go_ret
      exact ⟨a3, m3, c3, rfl, HF⟩
    | succ h =>
      have hpos : 0 < m4 := by
        have := hS.ne (by omega)
        rw [hm4]
        exact List.length_pos_iff.2 this
      have hmx : m4 ≤ 1000 := by
        obtain ⟨m, ls, F, h1, h2, h3⟩ := hS.kids
        have := kids_le h2 h1
        omega
      have HStep : Hid (∀ i wi v5 v6, i < m4 → In2 wr wi v5 v6 ((ks.take i).map (cnt M)) ((ks.take i).flatMap (kidsOf M)) →
        ∃ q g c4' nl ai ci ak mk ck, Value.slice a4 m4 c4 = .slice (some ⟨g, 0, none⟩) m4 c4' ∧ wi.cell? ⟨g, i, none⟩ = some (.pointer (some ⟨q, 0, none⟩)) ∧ wi.cell? ⟨q, 0, none⟩ = some (.slice ai nl ci) ∧
          ∃ U, (∀ (a : Act) (o : Oper) (z : Operand), o.op = .buildSlice 72 1 #[(0, z)] → a.eval z = .int .i64 (nl : Nat) → (execOp a.eval o).run Try.prog wi = .ok (.value (.slice (some ⟨wi.heap.size, 0, none⟩) 1 1)) U) ∧
          ∃ a5 m5 c5 V1, (Builtin.append_ #[72, 72] 72 #[v5, .slice (some ⟨wi.heap.size, 0, none⟩) 1 1]).run Try.prog U = .ok (.slice a5 m5 c5) V1 ∧ V1.cell? ⟨q, 1, none⟩ = some (.slice ak mk ck) ∧
          ∃ a6 m6 c6 V2, (Builtin.append_ #[56, 56] 56 #[v6, .slice ak mk ck]).run Try.prog V1 = .ok (.slice a6 m6 c6) V2 ∧ In2 wr V2 (.slice a5 m5 c5) (.slice a6 m6 c6) ((ks.take (i + 1)).map (cnt M)) ((ks.take (i + 1)).flatMap (kidsOf M))) := fun i wi v5 v6 hi hI => by
        have := sh_step hS (by omega) hI
        rw [← hm4] at this
        exact this
      have HEnd : Hid (∀ wi a5 m5 c5 v6, In2 wr wi (.slice a5 m5 c5) v6 ((ks.take m4).map (cnt M)) ((ks.take m4).flatMap (kidsOf M)) →
        ∃ U, (∀ (a : Act) (o : Oper) (z : Operand), o.op = .buildSlice 48 1 #[(0, z)] → a.eval z = .slice a5 m5 c5 → (execOp a.eval o).run Try.prog wi = .ok (.value (.slice (some ⟨wi.heap.size, 0, none⟩) 1 1)) U) ∧
          ∃ a3' m3' c3' V, (Builtin.append_ #[48, 48] 48 #[.slice a3 m3 c3, .slice (some ⟨wi.heap.size, 0, none⟩) 1 1]).run Try.prog U = .ok (.slice a3' m3' c3') V ∧ ∃ ks' done', Sh w9 V M R (.slice a3' m3' c3') v6 h ks' done') := fun wi a5 m5 c5 v6 hI => sh_next hS HRl.out (by rw [← hm4]; exact hI)
      have HI0 : Hid (In2 wr wr (.slice none 0 0) (.slice none 0 0) ((ks.take 0).map (cnt M)) ((ks.take 0).flatMap (kidsOf M))) := in2_nil wr
      clear hS hm4 HRl
      have hgt : (0 : Int) < (m4 : Int) := by omega
      go_wp2_with fail
      obtain ⟨WI, hWI⟩ : ∃ WI, WI = wr := ⟨_, rfl⟩
      have HWI := Lib.hid hWI
      clear hWI
      rw [← HWI.out] at HStep HEnd HI0
      rw [HWI.out] at HI0
      go_loopg [5, 6, 17] m4 (fun kx s5 s6 s17 wi => ∃ (i : Nat) (a5 : Option Addr) (m5 c5 : Nat) (a6 : Option Addr) (m6 c6 : Nat), s17 = .int .i64 i ∧ s5 = .slice a5 m5 c5 ∧ s6 = .slice a6 m6 c6 ∧ i ≤ m4 ∧ m4 - i ≤ kx ∧ Hid (In2 WI wi (.slice a5 m5 c5) (.slice a6 m6 c6) ((ks.take i).map (cnt M)) ((ks.take i).flatMap (kidsOf M))))
      case atStart => exact ⟨0, none, 0, 0, none, 0, 0, rfl, rfl, rfl, Nat.zero_le _, by omega, by rw [HWI.out]; exact HI0⟩
      case round =>
        clear HI0 HWI
        obtain ⟨i, a5, m5, c5, a6, m6, c6, rfl, rfl, rfl, hi, hkx, HI⟩ := hrel
        rename World => wi
        by_cases hlt : i < m4
        · obtain ⟨q, g, c4', nl, ai, ci, ak, mk, ck, e4, d0, d1, U, hrb, a5', m5', c5', V1, hap5, d2, a6', m6', c6', V2, hap6, hI2⟩ := HStep.out i _ _ _ hlt HI.out
          cases e4
          have HI2 := Lib.hid hI2
          have HRb := Lib.hid hrb
          have hw1 := wraps_i64 ((i : Int) + 1) (by omega) (by omega)
          clear hI2 hrb HStep HEnd HI
          go_wp2_with (first
            | (refine wpList_exec rfl (HRb.out _ _ _ rfl rfl) ?_)
            | (refine wpList_exec rfl (exec_append rfl rfl rfl hap5) ?_)
            | (refine wpList_exec rfl (exec_append rfl rfl rfl hap6) ?_)
            | fail)
          go_roundg (m4 - (i + 1))
          case measure => omega
          case rel => exact ⟨i + 1, a5', m5', c5', a6', m6', c6', by rw [show (i : Int) + 1 = ((i + 1 : Nat) : Int) by omega], rfl, rfl, by omega, Nat.le_refl _, HI2⟩
        · obtain rfl : i = m4 := by omega
          obtain ⟨U, hrb, a3', m3', c3', V, hap, hS'⟩ := HEnd.out _ _ _ _ _ HI.out
          have HS' := Lib.hid hS'
          have HRb := Lib.hid hrb
          clear hS' hrb HStep HEnd HI
          go_wp2_with (first
            | (refine wpList_exec rfl (HRb.out _ _ _ rfl rfl) ?_)
            | (refine wpList_exec rfl (exec_append rfl rfl rfl hap) ?_)
            | fail)
          go_roundg h
          case measure => omega
          case rel => exact ⟨a3', m3', c3', a6, m6, c6, h, rfl, rfl, Nat.le_refl _, HS'⟩
theorem rows_few {R : List (List Nat)} (h : Shp 1 1 R) (ht : tot R ≤ 1000) : R.length ≤ 1000 := by
  cases R with
  | nil => exact Nat.zero_le _
  | cons r rs =>
    have h1 := shp_few h
    have h2 : rs.length < 4 ^ rs.length := Nat.lt_pow_self (by omega)
    rw [List.length_cons]
    omega
theorem shape_ {w : World} {M : Nat → Option Nd} {p : Nat} {l : List It} {F : Nat → Prop} (hs : Store w M) (ht : TreeAt w M p l F) (hl : l.length ≤ 1000) :
    Calls Try.prog 21 #[.pointer (some ⟨p, 0, none⟩)] w fun e w' => ∃ a m c R, e = .returned (.slice a m c) ∧ RowsN w' w.heap.size (.slice a m c) R ∧ Below w.heap.size w w' ∧ (l = [] ∧ R = [] ∨ R ≠ [] ∧ Shp 1 1 R ∧ tot R = l.length) := by
  rcases ht.root with ⟨rfl, _, hp⟩ | ⟨h, q, hne, hN, hp⟩
  · refine (shape_walk (M := M) (R := []) (H := 0) (by simp) (top_ rfl hp) ((asRow_none w).mono fun e w1 ⟨e1, e2⟩ => ?_)).mono fun e w' ⟨a, m, c, e1, e2⟩ => ⟨a, m, c, [], e1, e2.out.1, e2.out.2, .inl ⟨rfl, rfl⟩⟩
    subst e2
    exact ⟨none, 0, 0, e1, [], [], ⟨⟨1, [], _, Nat.le_refl _, kids_nil, by simp [lens]⟩, fun h => absurd rfl h, rfl, hs, Below.refl _ _, rowsN_nil _ _, World.ownsRow_nil _ _ _ _⟩⟩
  · obtain ⟨h1, h2⟩ := rows_of hN
    refine (shape_walk (M := M) (R := rowsOf M (h + 1) [q]) (H := h + 1) (rows_few h1 (by omega)) (top_ rfl hp) ((asRow_ w q).mono fun e w1 ⟨e1, e2, e3⟩ => ?_)).mono fun e w' ⟨a, m, c, e1, e2⟩ => ⟨a, m, c, _, e1, e2.out.1, e2.out.2, .inr ⟨by rw [rowsOf]; simp, h1, h2⟩⟩
    refine ⟨_, _, _, e1, [q], [], ⟨⟨1, [l], F, Nat.le_refl _, kids_one hN, by simp [lens]; omega⟩, fun _ h => (by cases h), rfl, hs, e2, rowsN_nil _ _, ?_⟩⟩
    refine ⟨e3.1, ?_⟩
    rcases e3.2 with ⟨e4, _⟩ | ⟨g, cap, cur, e4, _, k2⟩
    · cases e4
    · refine .inr ⟨g, cap, cur, e4, ?_, k2⟩
      simp only [Value.slice.injEq, Option.some.injEq, Addr.mk.injEq] at e4
      omega
end Go.Proofs.Ytlpkpookheafpaa
