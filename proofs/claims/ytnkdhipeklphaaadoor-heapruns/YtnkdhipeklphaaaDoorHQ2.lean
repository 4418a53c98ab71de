/- The walks of a queue's Pop, Top, find, Drop. -/
import Derived.Test.YtnkdhipeklphaaaDoorHQ1
namespace Go.Proofs.YtnkdhipeklphaaaDoor
open Go.RowKit Go.Sort Go.Maps

/-- What a queue is behind one that is taken out. -/
theorem qu_cut {w w4 : World} {N qb : Nat} {p q : List Sl} {x : Sl} {t m : Nat} {v v' : Value} {n i : Nat} {b b' : Nat → Nat} {S : Nat → Sl} {D : DataW Unit} (h : Qu w N qb (p ++ x :: q) t (.map (some m)) v (n + 1) b S) (hi : i < n + 1) (hx : S (b i) = x)
    (hNm : N ≤ m) (hD1 : ∀ k, k < n + 1 → has D (kl (S (b k)).id) = true ∧ D.atKey (kl (S (b k)).id) .nil = .lit (.int .i64 (b k))) (hD2 : ∀ id, inI id → has D (kl id) = true → ∃ k, k < n + 1 ∧ (S (b k)).id = id)
    (L4 : Ln w4 N qb 54 [.map (some m), .int .i64 (t : Int)] v' n b' S) (H4 : Hp kle (fun k => S (b' k)) n) (P4 : Pm (n + 1) b b') (hbn : b' n = b i) (S4 : SlotAt w4 (b i) (S (b i)) n) (M4 : w4.ownsMap Tryd.prog 3 ptE m t (D.del (kl x.id))) :
    Qu w4 N qb (p ++ q) t (.map (some m)) v' n b' S := by
  have hpl : ∀ k, k < n + 1 → ∃ s, SlotAt w4 (b' k) s k := fun k hk => by
    by_cases e : k = n
    · subst e; rw [hbn]; exact ⟨_, S4⟩
    · exact ⟨_, (L4.slot k (by omega)).2⟩
  have hinj : ∀ i j, i < n + 1 → j < n + 1 → b' i = b' j → i = j := fun i j hi hj e => by
    obtain ⟨s1, h1⟩ := hpl i hi
    obtain ⟨s2, h2⟩ := hpl j hj
    have e1 := h1.cells.2.2.2.2
    rw [e, h2.cells.2.2.2.2] at e1
    simp at e1; omega
  have hc := P4.cont hinj h.cont
  have hsx : S (b' n) = x := by rw [hbn]; exact hx
  have hsub : ∀ y ∈ p ++ q, y ∈ p ++ x :: q := fun y hy => by rcases List.mem_append.1 hy with hy | hy <;> simp [hy]
  have hne : ∀ k, k < n → (S (b' k)).id ≠ x.id := fun k hk e => by
    have h1 := h.ids _ (hc.1 k (by omega)) x (by simp) e
    have := hc.2.2.1 k n (by omega) (by omega) (by show S (b' k) = S (b' n); rw [hsx]; exact h1)
    omega
  refine ⟨L4, H4, cont_cut hc hsx h.srt, (srt_out h.srt).1, .inr ⟨m, _, rfl, hNm, M4, fun k hk => ?_, fun id hid hh => ?_⟩, fun y hy => h.wf y (hsub y hy), fun y hy z hz => h.ids y (hsub y hy) z (hsub z hz), h.tl⟩
  · have hkk : kl (S (b' k)).id ≠ kl x.id := fun e => hne k hk (kl_inj e)
    rw [has_del_other hkk, atKey_del_other hkk]
    obtain ⟨j, hj, e⟩ := P4.1 k (by omega)
    rw [e]; exact hD1 j hj
  · by_cases e : id = x.id
    · subst e; rw [has_del_same] at hh; cases hh
    · rw [has_del_other (fun e' => e (kl_inj e'))] at hh
      obtain ⟨k, hk, e'⟩ := hD2 id hid hh
      obtain ⟨j, hj, ej⟩ := P4.2 k hk
      have hjn : j ≠ n := fun hjn => by
        subst hjn
        rw [ej, hsx] at e'
        exact e e'.symm
      exact ⟨j, by omega, by rw [← ej]; exact e'⟩
theorem Qu.mapped {w : World} {N qb : Nat} {r : List Sl} {t : Nat} {mv v : Value} {n : Nat} {b : Nat → Nat} {S : Nat → Sl} (h : Qu w N qb r t mv v n b S) (hn : 0 < n) : ∃ m D, mv = .map (some m) ∧ N ≤ m ∧ w.ownsMap Tryd.prog 3 ptE m t D ∧ (∀ k, k < n → has D (kl (S (b k)).id) = true ∧ D.atKey (kl (S (b k)).id) .nil = .lit (.int .i64 (b k))) ∧ (∀ id, inI id → has D (kl id) = true → ∃ k, k < n ∧ (S (b k)).id = id) ∧ m ≠ qb := by
  rcases h.map with ⟨_, e⟩ | ⟨m, D, rfl, h1, h2, h3, h4⟩
  · omega
  · refine ⟨m, D, rfl, h1, h2, h3, h4, fun e => ?_⟩
    obtain ⟨es, cl, k1, _⟩ := h2
    rw [e, h.ln.hdr] at k1; cases k1
theorem Qu.on {w w' : World} {N qb : Nat} {r : List Sl} {t : Nat} {mv v : Value} {n : Nat} {b : Nat → Nat} {S : Nat → Sl} (h : Qu w N qb r t mv v n b S) (hb : Below w.heap.size w w') : Qu w' N qb r t mv v n b S :=
  ⟨h.ln.on hb, h.hp, h.cont, h.srt, h.map.on fun m _ _ hm _ => hb.block m (blk_lt hm), h.wf, h.ids, h.tl⟩
theorem below_item (w : World) : Below w.heap.size w (w.alloc (.cells #[.int .i64 0, .int .i64 0] 37)) := (Below.refl _ _).alloc (Nat.le_refl _) _
theorem ln_far {w w' : World} {N hb B : Nat} {ty t : TypeId} {rs : List Value} {v : Value} {n : Nat} {b : Nat → Nat} {S : Nat → Sl} {cs : Array Value} {z : Nat × Nat} (h : Ln w N hb ty rs v n b S) (hB : w.heap[B]? = some (.cells cs t z)) (h1 : t ≠ 59) (h2 : t ≠ 56) (h3 : t ≠ ty) (hk : ∀ k : Nat, k ≠ B → w'.heap[k]? = w.heap[k]?) : Ln w' N hb ty rs v n b S := by
  have hne : ∀ (k : Nat) (c : Array Value) (t' : TypeId) (z : Nat × Nat), w.heap[k]? = some (.cells c t' z) → t ≠ t' → k ≠ B := fun k c t' z hq ht e => by
    rw [e, hB] at hq; simp only [Option.some.injEq, Obj.cells.injEq] at hq; exact ht hq.2.1
  refine ⟨(hk _ (hne _ _ _ _ h.hdr h3)).trans h.hdr, h.tyS, h.tyP, h.low, ?_, fun k hkn => ⟨(h.slot k hkn).1, (hk _ (hne _ _ _ _ (h.slot k hkn).2 h1)).trans (h.slot k hkn).2⟩, h.lim⟩
  rcases h.row with h4 | ⟨g, cap, c, e, h4, h5, h6⟩
  · exact .inl h4
  · exact .inr ⟨g, cap, c, e, h4, (hk _ (hne _ _ _ _ h5 h2)).trans h5, h6⟩
theorem qu_far {w w' : World} {N qb B : Nat} {r : List Sl} {t : Nat} {mv v : Value} {n : Nat} {b : Nat → Nat} {S : Nat → Sl} {ty : TypeId} {cs : Array Value} {z : Nat × Nat} (h : Qu w N qb r t mv v n b S) (hB : w.heap[B]? = some (.cells cs ty z)) (h1 : ty ≠ 59) (h2 : ty ≠ 56) (h3 : ty ≠ 54) (hk : ∀ k : Nat, k ≠ B → w'.heap[k]? = w.heap[k]?) : Qu w' N qb r t mv v n b S :=
  ⟨ln_far h.ln hB h1 h2 h3 hk, h.hp, h.cont, h.srt, h.map.on fun m _ _ hm _ => hk m (fun e => by subst e; rw [hB] at hm; cases hm), h.wf, h.ids, h.tl⟩
theorem FQ.setNew {N B o : Nat} {w w' : World} (h : FQ N w w') (hB : w.heap.size ≤ B) (u : Value) : FQ N w (w'.setCell ⟨B, o, none⟩ u) :=
  ⟨h.os, h.tape, h.output, by rw [Deep.nblk_setCell]; exact h.size, fun k hk hN => by rw [heap_far _ (by omega)]; exact h.low k hk hN, fun k c t z hc h1 h2 h3 => by have := blk_lt hc; rw [heap_far _ (by omega)]; exact h.keep k c t z hc h1 h2 h3⟩
set_option maxHeartbeats 1000000 in
theorem pop_none {w : World} {N qb : Nat} {t : Nat} {mv v : Value} {b : Nat → Nat} {S : Nat → Sl} (h : Qu w N qb [] t mv v 0 b S) :
    Calls Tryd.prog 12 #[.pointer (some ⟨qb, 0, none⟩)] w fun e w' => e = .returned (.tuple #[.agg #[.int .i64 0, .int .i64 0], errE 8]) ∧ Below w.heap.size w w' := by
  have HL := Lib.hid (qlen_ (h.on (below_item w)).ln)
  clear h
  unfold errE
  go_enter Tryd.func12, Tryd.ntmps12
  go_wp2_with fail
  refine HL.out.mono ?_
  rintro e w1 ⟨rfl, rfl⟩
  go_wp2_with fail
  exact bodyPost_ret (v := .tuple #[.agg #[.int .i64 0, .int .i64 0], .iface 55 (.int .i64 8)]) (by simp [results, Tryd.results12, go_sem]) rfl ⟨rfl, below_item w⟩
set_option maxHeartbeats 1000000 in
theorem pop_some {w : World} {N qb : Nat} {x : Sl} {r : List Sl} {t : Nat} {mv v : Value} {n : Nat} {b : Nat → Nat} {S : Nat → Sl} (h : Qu w N qb (x :: r) t mv v (n + 1) b S) :
    Calls Tryd.prog 12 #[.pointer (some ⟨qb, 0, none⟩)] w fun e w' => e = .returned (.tuple #[.agg #[.int .i64 x.id, .int .i64 x.rank], .nilIface]) ∧ (∃ mv' v' b' S', Qu w' N qb r t mv' v' n b' S') ∧ FQ N w w' := by
  have FI := Lib.hid (below_fq (below_item w) N)
  have cI : (w.alloc (.cells #[.int .i64 0, .int .i64 0] 37)).heap[w.heap.size]? = some (.cells #[.int .i64 0, .int .i64 0] 37 (0, 0)) := heap_alloc_new _ _
  replace h := h.on (below_item w)
  obtain ⟨m, D, rfl, hNm, hown, hD1, hD2, hmq⟩ := h.mapped (by omega)
  have hx : S (b 0) = x := cont_head h.cont h.srt h.hp
  have HL := Lib.hid (qlen_ h.ln)
  have HT := Lib.hid (take_ h.ln h.hp)
  have HDR := Lib.hid h.ln.hdr
  have HM := Lib.hid hown
  have HD := Lib.hid (And.intro hD1 hD2)
  have hkey := key_ x.id (h.wf x (by simp)).2.2.1
  have hnn : ((n : Int) + 1 == 0) = false := beq_eq_false_iff_ne.2 (by omega)
  have HQ := Lib.hid h
  clear h hown hD1 hD2
  go_enter Tryd.func12, Tryd.ntmps12
  go_wp2_with fail
  refine HL.out.mono ?_
  rintro e w1 ⟨rfl, rfl⟩
  go_wp2_with fail
  refine HT.out.mono ?_
  rintro e w2 ⟨rfl, v', b', L2, H2, P2, hbn, S2, F2⟩
  have M2 : Hid (w2.ownsMap Tryd.prog 3 ptE m t D) := by
    obtain ⟨es, cl, k1, k2⟩ := HM.out
    exact ⟨es, cl, (F2.map k1 hmq).trans k1, k2⟩
  obtain ⟨s0, s1, _⟩ := S2.cells
  rw [hx] at s0 s1
  have cm : w2.cell? ⟨qb, 1, none⟩ = some (.map (some m)) := cell_of L2.hdr rfl
  have HE := Lib.hid (And.intro L2 (And.intro H2 (And.intro P2 (And.intro hbn (And.intro S2 F2)))))
  clear L2 H2 P2 S2 F2 HT HM
  generalize hb0 : b 0 = b0 at *
  obtain ⟨w3, hrun, hown3, hturn3⟩ := (M2.out.drew).drop (t := 52) keyed Tryd.underlying52 hkey 0
  have k3 := turned_keep hturn3
  have S3 : SlotAt w3 b0 (S b0) n := (k3 _ _ _ _ (HE.out.2.2.2.2.1.on (below_drew w2))).trans (HE.out.2.2.2.2.1.on (below_drew w2))
  obtain ⟨s0', s1', _⟩ := S3.cells
  rw [hx] at s0' s1'
  have r2 : w2.heap[w.heap.size]? = some (.cells #[.int .i64 0, .int .i64 0] 37 (0, 0)) := ((HE.out.2.2.2.2.2.fq HDR.out).keep _ _ _ _ cI (by decide) (by decide) (by decide)).trans cI
  have r3 : w3.heap[w.heap.size]? = some (.cells #[.int .i64 0, .int .i64 0] 37 (0, 0)) := (k3 _ _ _ _ (((below_drew w2).block _ (blk_lt r2)).trans r2)).trans (((below_drew w2).block _ (blk_lt r2)).trans r2)
  have r30 := cell_of (o := 0) r3 rfl
  have r31 := cell_of (o := 1) r3 rfl
  have rf0 := frozen_of (o := 0) r3
  have rf1 := frozen_of (o := 1) r3
  have HL3 : Hid (Ln w3 N qb 54 [.map (some m), .int .i64 (t : Int)] v' n b' S) := ln_keep (HE.out.1.on (below_drew w2)) k3
  have HF3 : Hid (FQ N w w3) := ((FI.out.trans (HE.out.2.2.2.2.2.fq HDR.out)).trans (below_fq (below_drew w2) N)).trans (turned_fq hturn3 hNm)
  have HS3 := Lib.hid S3
  have HM3 := Lib.hid hown3
  have HR3 := Lib.hid r3
  have hrl : w.heap.size ≠ b0 := fun e => by rw [← e, SlotAt, r3] at S3; simp at S3
  clear k3 S3 r2 r3 hown3 hturn3 M2
  go_wp2_with fail
  go_region
  go_wp2_with fail
  have hQ3 : Qu w3 N qb ([] ++ r) t (.map (some m)) v' n b' S := qu_cut (p := []) (i := 0) HQ.out (by omega) (by rw [hb0]; exact hx) hNm HD.out.1 HD.out.2 HL3.out HE.out.2.1 HE.out.2.2.1 (by rw [hb0]; exact HE.out.2.2.2.1) (by rw [hb0]; exact HS3.out) HM3.out
  have hQ5 := qu_far hQ3 HR3.out (by decide) (by decide) (by decide) (w' := (w3.setCell ⟨w.heap.size, 0, none⟩ (.int .i64 x.id)).setCell ⟨w.heap.size, 1, none⟩ (.int .i64 x.rank)) (fun k hk => by rw [heap_far _ hk, heap_far _ hk])
  have hF5 := (HF3.out.setNew (o := 0) (Nat.le_refl _) (.int .i64 x.id)).setNew (o := 1) (Nat.le_refl _) (.int .i64 x.rank)
  have g1 := heap_set (o := 1) (.int .i64 x.rank) (heap_set (o := 0) (.int .i64 x.id) HR3.out)
  have g10 := cell_of (o := 0) g1 rfl
  have g11 := cell_of (o := 1) g1 rfl
  exact bodyPost_ret (v := .tuple #[.agg #[.int .i64 x.id, .int .i64 x.rank], .nilIface]) (by simp [results, Tryd.results12, go_sem, g10, g11]) rfl ⟨rfl, ⟨_, _, _, _, hQ5⟩, hF5⟩
set_option maxHeartbeats 1000000 in
theorem pop_nil (w : World) :
    Calls Tryd.prog 12 #[.pointer none] w fun e w' => e = .returned (.tuple #[.agg #[.int .i64 0, .int .i64 0], errE 8]) ∧ Below w.heap.size w w' := by
  unfold errE
  go_enter Tryd.func12, Tryd.ntmps12
  go_wp2_with fail
  refine (qlen_nil _).mono ?_
  rintro e w1 ⟨rfl, rfl⟩
  go_wp2_with fail
  exact bodyPost_ret (v := .tuple #[.agg #[.int .i64 0, .int .i64 0], .iface 55 (.int .i64 8)]) (by simp [results, Tryd.results12, go_sem]) rfl ⟨rfl, below_item w⟩
set_option maxHeartbeats 1000000 in
theorem top_none {w : World} {N qb : Nat} {t : Nat} {mv v : Value} {b : Nat → Nat} {S : Nat → Sl} (h : Qu w N qb [] t mv v 0 b S) :
    Calls Tryd.prog 13 #[.pointer (some ⟨qb, 0, none⟩)] w fun e w' => e = .returned (.tuple #[.agg #[.int .i64 0, .int .i64 0], errE 8]) ∧ Below w.heap.size w w' := by
  have HL := Lib.hid (qlen_ (h.on (below_item w)).ln)
  clear h
  unfold errE
  go_enter Tryd.func13, Tryd.ntmps13
  go_wp2_with fail
  refine HL.out.mono ?_
  rintro e w1 ⟨rfl, rfl⟩
  go_wp2_with fail
  exact bodyPost_ret (v := .tuple #[.agg #[.int .i64 0, .int .i64 0], .iface 55 (.int .i64 8)]) (by simp [results, Tryd.results13, go_sem]) rfl ⟨rfl, below_item w⟩
set_option maxHeartbeats 1000000 in
theorem top_some {w : World} {N qb : Nat} {x : Sl} {r : List Sl} {t : Nat} {mv v : Value} {n : Nat} {b : Nat → Nat} {S : Nat → Sl} (h : Qu w N qb (x :: r) t mv v (n + 1) b S) :
    Calls Tryd.prog 13 #[.pointer (some ⟨qb, 0, none⟩)] w fun e w' => e = .returned (.tuple #[.agg #[.int .i64 x.id, .int .i64 x.rank], .nilIface]) ∧ Below w.heap.size w w' := by
  have h' := h.on (below_item w)
  have hx : S (b 0) = x := cont_head h.cont h.srt h.hp
  have HL := Lib.hid (qlen_ h'.ln)
  obtain ⟨g, cap, c, rfl, _, hg, hnc, hcm, hsz, hc, _, _, _⟩ := h'.ln.some (by omega)
  have c0 := h'.ln.head.1
  have cg := cell_of hg (hc 0 (by omega))
  obtain ⟨s0, s1, _⟩ := (h'.ln.slot 0 (by omega)).2.cells
  rw [hx] at s0 s1
  have hnn : ((n : Int) + 1 == 0) = false := beq_eq_false_iff_ne.2 (by omega)
  have hlim := h'.ln.lim
  have hlt := slot_lt (h.ln.slot 0 (by omega)).2
  unfold pt at cg
  clear h h' hg hc hsz hcm hx
  generalize b 0 = b0 at *
  go_enter Tryd.func13, Tryd.ntmps13
  go_wp2_with fail
  refine HL.out.mono ?_
  rintro e w1 ⟨rfl, rfl⟩
  go_wp2_with fail
  exact bodyPost_ret (v := .tuple #[.agg #[.int .i64 x.id, .int .i64 x.rank], .nilIface]) (by simp [results, Tryd.results13, go_sem]) rfl ⟨rfl, (Below.refl _ _).alloc (Nat.le_refl _) _⟩
set_option maxHeartbeats 1000000 in
theorem find_no {w : World} {N qb : Nat} {r : List Sl} {t : Nat} {mv v : Value} {n : Nat} {b : Nat → Nat} {S : Nat → Sl} (h : Qu w N qb r t mv v n b S) (id : Int) (hid : inI id) (hin : ∀ y ∈ r, y.id ≠ id) :
    Calls Tryd.prog 23 #[.pointer (some ⟨qb, 0, none⟩), .int .i64 id] w fun e w' => e = .returned (.tuple #[.pointer none, errE 8]) ∧ w' = w := by
  obtain ⟨_, c1, _, _⟩ := h.cells
  obtain ⟨m, rfl⟩ := h.mvv
  rcases h.look id hid with ⟨x, hl, _⟩ | ⟨k, hk, e, _⟩
  · clear h hin
    unfold errE
    go_enter Tryd.func23, Tryd.ntmps23
    go_wp2_with fail
    go_ret2
    exact ⟨rfl, rfl⟩
  · exact absurd e (hin _ (h.cont.1 k hk))
set_option maxHeartbeats 1000000 in
theorem find_nil (id : Int) (w : World) :
    Calls Tryd.prog 23 #[.pointer none, .int .i64 id] w fun e w' => e = .returned (.tuple #[.pointer none, errE 8]) ∧ w' = w := by
  unfold errE
  go_enter Tryd.func23, Tryd.ntmps23
  go_wp2_with fail
  go_ret2
  exact ⟨rfl, rfl⟩
set_option maxHeartbeats 1000000 in
theorem find_yes {w : World} {N qb : Nat} {r : List Sl} {t : Nat} {mv v : Value} {n : Nat} {b : Nat → Nat} {S : Nat → Sl} (h : Qu w N qb r t mv v n b S) (id : Int) (hid : inI id) {i : Nat} (hi : i < n) (he : (S (b i)).id = id) :
    Calls Tryd.prog 23 #[.pointer (some ⟨qb, 0, none⟩), .int .i64 id] w fun e w' => e = .returned (.tuple #[.pointer (some ⟨b i, 0, none⟩), .nilIface]) ∧ w' = w := by
  obtain ⟨_, c1, _, _⟩ := h.cells
  obtain ⟨m, rfl⟩ := h.mvv
  rcases h.look id hid with ⟨x, hl, hno⟩ | ⟨k, hk, e, hl⟩
  · exact absurd he (hno _ (h.cont.1 i hi))
  · have hki : k = i := h.cont.2.2.1 k i hk hi (h.ids _ (h.cont.1 k hk) _ (h.cont.1 i hi) (e.trans he.symm))
    subst hki
    clear h
    generalize b k = bk at *
    go_enter Tryd.func23, Tryd.ntmps23
    go_wp2_with fail
    go_ret2
    exact ⟨rfl, rfl⟩
/-- The slot of a number that is there. -/
theorem Qu.at {w : World} {N qb : Nat} {p q : List Sl} {x : Sl} {t : Nat} {mv v : Value} {n : Nat} {b : Nat → Nat} {S : Nat → Sl} (h : Qu w N qb (p ++ x :: q) t mv v n b S) : ∃ i, i < n ∧ S (b i) = x := h.cont.2.1 x (by simp)
set_option maxHeartbeats 1000000 in
theorem drop_no {w : World} {N qb : Nat} {r : List Sl} {t : Nat} {mv v : Value} {n : Nat} {b : Nat → Nat} {S : Nat → Sl} (h : Qu w N qb r t mv v n b S) (id : Int) (hid : inI id) (hin : ∀ y ∈ r, y.id ≠ id) :
    Calls Tryd.prog 10 #[.pointer (some ⟨qb, 0, none⟩), .int .i64 id] w fun e w' => e = .returned (errE 8) ∧ w' = w := by
  have HF := Lib.hid (find_no h id hid hin)
  unfold errE at *
  clear h hin
  go_enter Tryd.func10, Tryd.ntmps10
  go_wp2_with fail
  refine HF.out.mono ?_
  rintro e w1 ⟨rfl, rfl⟩
  go_wp2_with fail
  go_ret
  exact ⟨rfl, rfl⟩
set_option maxHeartbeats 1000000 in
theorem drop_nil (id : Int) (w : World) :
    Calls Tryd.prog 10 #[.pointer none, .int .i64 id] w fun e w' => e = .returned (errE 8) ∧ w' = w := by
  have HF := Lib.hid (find_nil id w)
  unfold errE at *
  go_enter Tryd.func10, Tryd.ntmps10
  go_wp2_with fail
  refine HF.out.mono ?_
  rintro e w1 ⟨rfl, rfl⟩
  go_wp2_with fail
  go_ret
  exact ⟨rfl, rfl⟩
set_option maxHeartbeats 1000000 in
theorem move_no {w : World} {N qb : Nat} {r : List Sl} {t : Nat} {mv v : Value} {n : Nat} {b : Nat → Nat} {S : Nat → Sl} (h : Qu w N qb r t mv v n b S) (id rank : Int) (hid : inI id) (hin : ∀ y ∈ r, y.id ≠ id) :
    Calls Tryd.prog 8 #[.pointer (some ⟨qb, 0, none⟩), .int .i64 id, .int .i64 rank] w fun e w' => e = .returned (errE 8) ∧ w' = w := by
  have HF := Lib.hid (find_no h id hid hin)
  unfold errE at *
  clear h hin
  go_enter Tryd.func8, Tryd.ntmps8
  go_wp2_with fail
  refine HF.out.mono ?_
  rintro e w1 ⟨rfl, rfl⟩
  go_wp2_with fail
  go_ret
  exact ⟨rfl, rfl⟩
set_option maxHeartbeats 1000000 in
theorem move_nil (id rank : Int) (w : World) :
    Calls Tryd.prog 8 #[.pointer none, .int .i64 id, .int .i64 rank] w fun e w' => e = .returned (errE 8) ∧ w' = w := by
  have HF := Lib.hid (find_nil id w)
  unfold errE at *
  go_enter Tryd.func8, Tryd.ntmps8
  go_wp2_with fail
  refine HF.out.mono ?_
  rintro e w1 ⟨rfl, rfl⟩
  go_wp2_with fail
  go_ret
  exact ⟨rfl, rfl⟩
end Go.Proofs.YtnkdhipeklphaaaDoor
