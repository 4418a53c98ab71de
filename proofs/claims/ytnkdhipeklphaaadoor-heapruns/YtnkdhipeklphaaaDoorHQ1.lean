/- The walks of a queue's find and Push. -/
import Derived.Test.YtnkdhipeklphaaaDoorHQ
namespace Go.Proofs.YtnkdhipeklphaaaDoor
open Go.RowKit Go.Sort Go.Maps

def errE (n : Int) : Value := .iface 55 (.int .i64 n)
theorem zeroP (W : World) : (zeroValue 56).run Tryd.prog W = .ok (.pointer none) W := by kernel_rfl
theorem look_nil_ (id : Int) (W : World) (h : inI id) : (Instr.lookup 52 (.map none) (.int .i64 id) true).run Tryd.prog W = .ok (.tuple #[.pointer none, .bool false]) W := by
  have := Maps.look_nil (w := W) (t := 52) true keyed Tryd.underlying52 (zeroP W) (key_ id h)
  simpa using this
theorem look_map_ {W : World} {m t : Nat} {D : DataW Unit} (id : Int) (h : inI id) (hm : W.ownsMap Tryd.prog 3 ptE m t D) : ∃ v, (Instr.lookup 52 (.map (some m)) (.int .i64 id) true).run Tryd.prog W = .ok (.tuple #[v, .bool (has D (kl id))]) W ∧ ∀ b : Nat, D.atKey (kl id) .nil = .lit (.int .i64 b) → v = pt b := by
  obtain ⟨v, ps, h1, h2⟩ := hm.look_ok (t := 52) keyed Tryd.underlying52 (zeroP W) ptE_none (key_ id h)
  exact ⟨v, h1, fun b hb => ptE_inv (by rw [hb] at h2; exact h2)⟩
/-- Whether a number is there, at the map. -/
theorem Qu.look {w : World} {N qb : Nat} {r : List Sl} {t : Nat} {mv v : Value} {n : Nat} {b : Nat → Nat} {S : Nat → Sl} (h : Qu w N qb r t mv v n b S) (id : Int) (hid : inI id) : (∃ x, (Instr.lookup 52 mv (.int .i64 id) true).run Tryd.prog w = .ok (.tuple #[x, .bool false]) w ∧ ∀ y ∈ r, y.id ≠ id) ∨ ∃ k, k < n ∧ (S (b k)).id = id ∧ (Instr.lookup 52 mv (.int .i64 id) true).run Tryd.prog w = .ok (.tuple #[.pointer (some ⟨b k, 0, none⟩), .bool true]) w := by
  rcases h.map with ⟨rfl, hn⟩ | ⟨m, D, rfl, hN, hm, h1, h2⟩
  · refine .inl ⟨_, look_nil_ id w hid, fun y hy => ?_⟩
    have := h.len
    rw [hn] at this
    rw [List.eq_nil_of_length_eq_zero this] at hy
    simp at hy
  · obtain ⟨x, hx, hv⟩ := look_map_ id hid hm
    cases hh : has D (kl id)
    · refine .inl ⟨x, by rw [hx, hh], fun y hy e => ?_⟩
      obtain ⟨k, hk, e'⟩ := h.cont.2.1 y hy
      have := (h1 k hk).1
      rw [show (S (b k)) = y from e', e, hh] at this
      cases this
    · obtain ⟨k, hk, e⟩ := h2 id hid hh
      have h3 := (h1 k hk).2
      rw [e] at h3
      refine .inr ⟨k, hk, e, ?_⟩
      rw [hx, hh, hv _ h3]
      rfl
theorem Qu.cells {w : World} {N qb : Nat} {r : List Sl} {t : Nat} {mv v : Value} {n : Nat} {b : Nat → Nat} {S : Nat → Sl} (h : Qu w N qb r t mv v n b S) : w.cell? ⟨qb, 0, none⟩ = some v ∧ w.cell? ⟨qb, 1, none⟩ = some mv ∧ w.cell? ⟨qb, 2, none⟩ = some (.int .i64 t) ∧ ∀ o, w.frozen? ⟨qb, o, none⟩ = false :=
  ⟨cell_of h.ln.hdr rfl, cell_of h.ln.hdr rfl, cell_of h.ln.hdr rfl, fun _ => frozen_of h.ln.hdr⟩
theorem Qu.mvv {w : World} {N qb : Nat} {r : List Sl} {t : Nat} {mv v : Value} {n : Nat} {b : Nat → Nat} {S : Nat → Sl} (h : Qu w N qb r t mv v n b S) : ∃ m, mv = .map m := by
  rcases h.map with ⟨rfl, _⟩ | ⟨m, _, rfl, _⟩
  · exact ⟨_, rfl⟩
  · exact ⟨_, rfl⟩
set_option maxHeartbeats 1000000 in
theorem push_dup {w : World} {N qb : Nat} {r : List Sl} {t : Nat} {mv v : Value} {n : Nat} {b : Nat → Nat} {S : Nat → Sl} (h : Qu w N qb r t mv v n b S) (id rank : Int) (hid : inI id) (hin : ∃ y ∈ r, y.id = id) :
    Calls Tryd.prog 6 #[.pointer (some ⟨qb, 0, none⟩), .int .i64 id, .int .i64 rank] w fun e w' => e = .returned (errE 9) ∧ w' = w := by
  obtain ⟨_, c1, _, _⟩ := h.cells
  obtain ⟨m, rfl⟩ := h.mvv
  rcases h.look id hid with ⟨x, _, hno⟩ | ⟨k, _, _, hl⟩
  · obtain ⟨y, hy, e⟩ := hin
    exact absurd e (hno y hy)
  · clear h hin
    unfold errE
    generalize b k = bk at *
    go_enter Tryd.func6, Tryd.ntmps6
    go_wp2_with fail
    go_ret
    exact ⟨rfl, rfl⟩
set_option maxHeartbeats 1000000 in
theorem push_nilq (id rank : Int) (w : World) :
    Calls Tryd.prog 6 #[.pointer none, .int .i64 id, .int .i64 rank] w fun e w' => e = .returned (errE 8) ∧ w' = w := by
  unfold errE
  go_enter Tryd.func6, Tryd.ntmps6
  go_wp2_with fail
  go_ret
  exact ⟨rfl, rfl⟩
-- pushes
theorem ln_keep {w w' : World} {N hb : Nat} {ty : TypeId} {rs : List Value} {v : Value} {n : Nat} {b : Nat → Nat} {S : Nat → Sl} (h : Ln w N hb ty rs v n b S) (hk : ∀ (k : Nat) (c : Array Value) (t : TypeId) (z : Nat × Nat), w.heap[k]? = some (.cells c t z) → w'.heap[k]? = w.heap[k]?) : Ln w' N hb ty rs v n b S := by
  refine ⟨(hk _ _ _ _ h.hdr).trans h.hdr, h.tyS, h.tyP, h.low, ?_, fun k hkn => ⟨(h.slot k hkn).1, (hk _ _ _ _ (h.slot k hkn).2).trans (h.slot k hkn).2⟩, h.lim⟩
  rcases h.row with h1 | ⟨g, cap, c, e, h1, h2, h3⟩
  · exact .inl h1
  · exact .inr ⟨g, cap, c, e, h1, (hk _ _ _ _ h2).trans h2, h3⟩
theorem turned_keep {w w' : World} {m : Nat} (h : w.mapTurned w' m) : ∀ (k : Nat) (c : Array Value) (t : TypeId) (z : Nat × Nat), w.heap[k]? = some (.cells c t z) → w'.heap[k]? = w.heap[k]? := by
  intro k c t z hk
  have hg := h.grown
  obtain ⟨es, cl, es', cl', hm, rfl⟩ := h
  refine hg.block k (blk_lt hk) fun e => ?_
  simp only [Option.some.injEq] at e; subst e; rw [hm] at hk; cases hk
/-- A cell of the header behind its first one. -/
theorem ln_set {w : World} {N hb : Nat} {ty : TypeId} {rs : List Value} {v : Value} {n : Nat} {b : Nat → Nat} {S : Nat → Sl} (h : Ln w N hb ty rs v n b S) (o : Nat) (u : Value) : Ln (w.setCell ⟨hb, o + 1, none⟩ u) N hb ty (rs.set o u) v n b S := by
  have hne : ∀ (k : Nat) (c : Array Value) (t : TypeId) (z : Nat × Nat), w.heap[k]? = some (.cells c t z) → t ≠ ty → k ≠ hb := fun k c t z hk ht e => by
    subst e; rw [h.hdr] at hk; simp only [Option.some.injEq, Obj.cells.injEq] at hk; exact ht hk.2.1.symm
  refine ⟨?_, h.tyS, h.tyP, h.low, ?_, fun k hk => ⟨(h.slot k hk).1, ?_⟩, h.lim⟩
  · rw [heap_set u h.hdr]
    simp
  · rcases h.row with h1 | ⟨g, cap, c, e, h1, h2, h3⟩
    · exact .inl h1
    · exact .inr ⟨g, cap, c, e, h1, by rw [heap_far _ (hne _ _ _ _ h2 (Ne.symm h.tyP))]; exact h2, h3⟩
  · show _ = _
    rw [heap_far _ (hne _ _ _ _ (h.slot k hk).2 (Ne.symm h.tyS))]
    exact (h.slot k hk).2
/-- One slot is told anew. -/
def upd (S : Nat → Sl) (B : Nat) (x : Sl) : Nat → Sl := fun k => if k = B then x else S k
theorem upd_at (S : Nat → Sl) (B : Nat) (x : Sl) : upd S B x B = x := by simp [upd]
theorem upd_old {S : Nat → Sl} {B k : Nat} {x : Sl} (h : k ≠ B) : upd S B x k = S k := by simp [upd, h]
theorem kl_inj {a b : Int} (h : kl a = kl b) : a = b := by unfold kl at h; exact (Lit.int.inj h).2
theorem mem_insL {l : List Sl} {x y : Sl} (h : ∀ y ∈ l, y.text = x.text ∧ y.turn < x.turn) : y ∈ insL l x ↔ y = x ∨ y ∈ l := by rw [← ins_insL l h]; exact mem_ins l
theorem len_insL {l : List Sl} {x : Sl} (h : ∀ y ∈ l, y.text = x.text ∧ y.turn < x.turn) : (insL l x).length = l.length + 1 := by rw [← ins_insL l h]; exact len_ins x l
theorem srt_insL {l : List Sl} {x : Sl} (h : ∀ y ∈ l, y.text = x.text ∧ y.turn < x.turn) (hs : Srt l) : Srt (insL l x) := by
  rw [← ins_insL l h]
  exact srt_ins l hs (fun y hy e => by have := (h y hy).2; omega)
/-- What a queue is behind a push. -/
theorem qu_push {w w4 : World} {N qb : Nat} {r : List Sl} {t m B : Nat} {mv v v' : Value} {n : Nat} {b b' : Nat → Nat} {S : Nat → Sl} {D : DataW Unit} (h : Qu w N qb r t mv v n b S) (id rank : Int) (hid : inI id) (hrk : inI rank) (hin : ∀ y ∈ r, y.id ≠ id) (ht : t + 1 ≤ 1000000)
    (x : Sl) (hxi : x.id = id) (hxk : x.rank = rank) (hxt : x.text = ⟨#[]⟩) (hxu : x.turn = (t : Int) + 1) (hB : ∀ k, k < n → b k ≠ B) (hNm : N ≤ m) (hD1 : ∀ k, k < n → has D (kl (S (b k)).id) = true ∧ D.atKey (kl (S (b k)).id) .nil = .lit (.int .i64 (b k))) (hD2 : ∀ id, inI id → has D (kl id) = true → ∃ k, k < n ∧ (S (b k)).id = id) (hD : IsMap D)
    (L4 : Ln w4 N qb 54 [.map (some m), .int .i64 ((t + 1 : Nat) : Int)] v' (n + 1) b' (upd S B x)) (H4 : Hp kle (fun k => upd S B x (b' k)) (n + 1)) (P4 : Pm (n + 1) (put b n B) b') (M4 : w4.ownsMap Tryd.prog 3 ptE m (t + 1) (D.put (kl id) (.lit (.int .i64 B)))) :
    Qu w4 N qb (insL r x) (t + 1) (.map (some m)) v' (n + 1) b' (upd S B x) := by
  have hsm : ∀ y ∈ r, y.text = x.text ∧ y.turn < x.turn := fun y hy => by
    have := h.wf y hy
    rw [hxt, hxu]
    exact ⟨this.1, by omega⟩
  have hxr : x ∉ r := fun hm => hin x hm hxi
  have hSb : ∀ k, k < n → upd S B x (put b n B k) = S (b k) := fun k hk => by rw [put_old (by omega), upd_old (hB k hk)]
  have hSn : upd S B x (put b n B n) = x := by rw [put_at, upd_at]
  have hcont : Cont (fun k => upd S B x (put b n B k)) (n + 1) (insL r x) := cont_push h.cont hxr hSn hSb (fun y => mem_insL hsm) (len_insL hsm)
  refine ⟨L4, H4, P4.cont L4.inj hcont, srt_insL hsm h.srt, ?_, ?_, ?_, ht⟩
  · refine MapQ.pm (.inr ⟨m, _, rfl, hNm, M4, fun k hk => ?_, fun id' hid' hh => ?_⟩) P4
    · by_cases e : k = n
      · subst e
        rw [hSn, put_at, hxi]
        exact ⟨has_put_same hD (keyed.key (key_ id hid)) _, atKey_put_same hD (keyed.key (key_ id hid)) _ _⟩
      · have hkn : k < n := by omega
        rw [hSb k hkn, put_old e]
        have hne : kl (S (b k)).id ≠ kl id := fun e => hin _ (h.cont.1 k hkn) (kl_inj e)
        rw [has_put_other hne, atKey_put_other hne]
        exact hD1 k hkn
    · by_cases e : id' = id
      · subst e
        exact ⟨n, by omega, by rw [hSn, hxi]⟩
      · rw [has_put_other (fun e' => e (kl_inj e'))] at hh
        obtain ⟨k, hk, e'⟩ := hD2 id' hid' hh
        exact ⟨k, by omega, by rw [hSb k hk]; exact e'⟩
  · intro y hy
    rcases (mem_insL hsm).1 hy with e | hy
    · subst e; exact ⟨hxt, by omega, by rw [hxi]; exact hid, by rw [hxk]; exact hrk⟩
    · have := h.wf y hy
      exact ⟨this.1, by omega, this.2.2⟩
  · intro y hy z hz e
    rcases (mem_insL hsm).1 hy with e1 | hy
    · rcases (mem_insL hsm).1 hz with e2 | hz
      · rw [e1, e2]
      · rw [e1, hxi] at e
        exact absurd e.symm (hin z hz)
    · rcases (mem_insL hsm).1 hz with e2 | hz
      · rw [e2, hxi] at e
        exact absurd e (hin y hy)
      · exact h.ids y hy z hz e
set_option maxHeartbeats 1000000 in
theorem push_map {w : World} {N qb : Nat} {r : List Sl} {t m : Nat} {v : Value} {n : Nat} {b : Nat → Nat} {S : Nat → Sl} (h : Qu w N qb r t (.map (some m)) v n b S) (id rank : Int) (hid : inI id) (hrk : inI rank) (hin : ∀ y ∈ r, y.id ≠ id) (ht : t + 1 ≤ 1000000) (hnl : n + 1 ≤ 17592186044416) :
    Calls Tryd.prog 6 #[.pointer (some ⟨qb, 0, none⟩), .int .i64 id, .int .i64 rank] w fun e w' => e = .returned .nilIface ∧ (∃ mv' v' b' S', Qu w' N qb (insL r ⟨id, rank, ⟨#[]⟩, (t : Int) + 1⟩) (t + 1) mv' v' (n + 1) b' S') ∧ FQ N w w' := by
  obtain ⟨_, c1, c2, hf⟩ := h.cells
  have f1 := hf 1
  have f2 := hf 2
  have q1 : ∀ (w : World) (r : Option Nat), (binOp .eql 52 (.map r) (.map none)).run Tryd.prog w = .ok (.bool r.isNone) w := fun w r => run_eql_map_nil w _ _ _ r Tryd.underlying52
  have hNw : N ≤ w.heap.size := Nat.le_trans h.ln.low (Nat.le_of_lt (blk_lt h.ln.hdr))
  have hqlt := blk_lt h.ln.hdr
  have HQ := Lib.hid h
  have HIN := Lib.hid hin
  have hkey := key_ id hid
  rcases h.look id hid with ⟨x, hl, hno⟩ | ⟨k, hk, e, _⟩
  · obtain ⟨D, hNm, hown, hD1, hD2⟩ : ∃ D, N ≤ m ∧ w.ownsMap Tryd.prog 3 ptE m t D ∧ (∀ k, k < n → has D (kl (S (b k)).id) = true ∧ D.atKey (kl (S (b k)).id) .nil = .lit (.int .i64 (b k))) ∧ ∀ id, inI id → has D (kl id) = true → ∃ k, k < n ∧ (S (b k)).id = id := by
      rcases h.map with ⟨e, _⟩ | ⟨m', D, e, h1, h2, h3, h4⟩
      · cases e
      · cases e; exact ⟨D, h1, h2, h3, h4⟩
    have hmlt := hown.lt
    have hmq : m ≠ qb := fun e => by obtain ⟨es, cl, k1, _⟩ := hown; rw [e, h.ln.hdr] at k1; cases k1
    have L0 := Lib.hid h.ln
    have F0 := Lib.hid (FQ.refl N w)
    have HD := Lib.hid (And.intro hD1 (And.intro hD2 hown.isMap))
    have HOWN := Lib.hid hown
    have hw0 : w.heap.size ≤ w.heap.size := Nat.le_refl _
    clear h hf hin hno hown hD1 hD2
    have mk := run_makeMap (P := Tryd.prog) 52
    have HT := Lib.hid (turn_ qb t w c2 f2 (by omega) (by omega))
    go_enter Tryd.func6, Tryd.ntmps6
    go_wp2_with fail
    refine HT.out.mono ?_
    rintro e w1 ⟨rfl, hw1⟩
    have hs1 : w1.heap.size = w.heap.size := by rw [hw1, Deep.nblk_setCell]
    have L1 : Hid (Ln w1 N qb 54 [.map (some m), .int .i64 ((t + 1 : Nat) : Int)] v n b S) := by rw [hw1]; exact ln_set L0.out 1 _
    have F1 : Hid (FQ N w w1) := by rw [hw1]; exact F0.out.trans (Fr.fq (Fr.set _ L0.out.hdr L0.out.low (.inr (.inr rfl))) L0.out.hdr)
    have M1 : Hid (w1.ownsMap Tryd.prog 3 ptE m t D) := by rw [hw1]; exact HOWN.out.setCell hmq _
    have cm1 : w1.cell? ⟨qb, 1, none⟩ = some (.map (some m)) := cell_of L1.out.hdr rfl
    clear HT HOWN c1 c2 f2 f1 hw1
    go_wp2_with (first
      | (at_mapUpdate; refine wpList_mapUpdate_in _ rfl _ _ _ 52 rfl 3 56 keyed Tryd.underlying52 ptE (m) t D rfl (M1.out.alloc _) (by unfold maxLen; omega) _ _ (kl id) rfl rfl hkey (.lit (.int .i64 ((w.heap.size : Nat) : Int))) [] rfl ?_)
      | fail)
    intro w3 hown3 hturn3
    obtain ⟨X, hX⟩ : ∃ X : Sl, X = ⟨id, rank, ⟨#[]⟩, (t : Int) + 1⟩ := ⟨_, rfl⟩
    have hbB : ∀ k, k < n → b k ≠ w.heap.size := fun k hk e => by
      have := slot_lt (L1.out.slot k hk).2
      omega
    have hb2 : Below w1.heap.size w1 (w1.alloc (.cells #[.int .i64 id, .int .i64 rank, .string ⟨#[]⟩, .int .i64 ((t : Int) + 1), .int .i64 0] 59)) := (Below.refl _ _).alloc (Nat.le_refl _) _
    have L3 : Ln w3 N qb 54 [.map (some (m)), .int .i64 ((t + 1 : Nat) : Int)] v n b (upd S (w.heap.size) X) :=
      (ln_keep (L1.out.on hb2) (turned_keep hturn3)).congr (fun _ _ => rfl) (fun k hk => upd_old (hbB k hk))
    have S3 : SlotAt w3 (w.heap.size) (upd S (w.heap.size) X (w.heap.size)) 0 := by
      have h0 : (w1.alloc (.cells #[.int .i64 id, .int .i64 rank, .string ⟨#[]⟩, .int .i64 ((t : Int) + 1), .int .i64 0] 59)).heap[w.heap.size]? = some (.cells #[.int .i64 id, .int .i64 rank, .string ⟨#[]⟩, .int .i64 ((t : Int) + 1), .int .i64 0] 59 (0, 0)) := by
        have := heap_alloc_new w1 (.cells #[.int .i64 id, .int .i64 rank, .string ⟨#[]⟩, .int .i64 ((t : Int) + 1), .int .i64 0] 59)
        rw [show w1.heap.size = w.heap.size by omega] at this
        exact this
      show _ = _
      rw [upd_at, hX]
      exact (turned_keep hturn3 _ _ _ _ h0).trans h0
    have H3 : Hp kle (fun k => upd S (w.heap.size) X (b k)) n := fun k hk hkn => by
      have hl := par_lt hk
      show kle (upd S (w.heap.size) X (b (par k))) (upd S (w.heap.size) X (b k))
      rw [upd_old (hbB _ (by omega)), upd_old (hbB k hkn)]
      exact HQ.out.hp k hk hkn
    have HK := Lib.hid (kpush_ L3 (w.heap.size) 0 S3 (by omega) hbB hnl H3)
    unfold ifL at HK
    have HX := Lib.hid hX
    have F3 := Lib.hid ((F1.out.trans (below_fq hb2 N)).trans (turned_fq hturn3 hNm))
    have M3 := Lib.hid hown3
    have HDR3 := Lib.hid L3.hdr
    have HB := Lib.hid hbB
    clear hown3 hturn3 L1 F1 M1 cm1 hb2 L3 S3 H3 hX hbB
    go_wp2_with fail
    refine HK.out.mono ?_
    rintro e w4 ⟨rfl, v', b', L4, H4, P4, F4⟩
    have hm4 : w4.ownsMap Tryd.prog 3 ptE (m) (t + 1) ((D).put (kl id) (.lit (.int .i64 ((w.heap.size : Nat) : Int)))) := by
      obtain ⟨es, cl, k1, k2⟩ := M3.out
      exact ⟨es, cl, (F4.map k1 hmq).trans k1, k2⟩
    have HQ4 := qu_push HQ.out id rank hid hrk HIN.out ht X (by rw [HX.out]) (by rw [HX.out]) (by rw [HX.out]) (by rw [HX.out]) HB.out hNm HD.out.1 HD.out.2.1 HD.out.2.2 L4 H4 P4 hm4
    rw [HX.out] at HQ4
    have HE : Hid ((∃ mv' v' b' S', Qu w4 N qb (insL r ⟨id, rank, ⟨#[]⟩, (t : Int) + 1⟩) (t + 1) mv' v' (n + 1) b' S') ∧ FQ N w w4) := ⟨⟨_, _, _, _, HQ4⟩, F3.out.trans (F4.fq HDR3.out)⟩
    clear L4 H4 P4 F4 hm4 HQ4 HK
    go_wp2_with fail
    go_ret
    exact ⟨rfl, HE.out⟩
  · exact absurd e (hin _ (h.cont.1 k hk))
set_option maxHeartbeats 1000000 in
theorem push_none {w : World} {N qb : Nat} {r : List Sl} {t : Nat} {v : Value} {n : Nat} {b : Nat → Nat} {S : Nat → Sl} (h : Qu w N qb r t (.map none) v n b S) (id rank : Int) (hid : inI id) (hrk : inI rank) (hin : ∀ y ∈ r, y.id ≠ id) (ht : t + 1 ≤ 1000000) (hnl : n + 1 ≤ 17592186044416) :
    Calls Tryd.prog 6 #[.pointer (some ⟨qb, 0, none⟩), .int .i64 id, .int .i64 rank] w fun e w' => e = .returned .nilIface ∧ (∃ mv' v' b' S', Qu w' N qb (insL r ⟨id, rank, ⟨#[]⟩, (t : Int) + 1⟩) (t + 1) mv' v' (n + 1) b' S') ∧ FQ N w w' := by
  obtain ⟨_, c1, c2, hf⟩ := h.cells
  have f1 := hf 1
  have f2 := hf 2
  have q1 : ∀ (w : World) (r : Option Nat), (binOp .eql 52 (.map r) (.map none)).run Tryd.prog w = .ok (.bool r.isNone) w := fun w r => run_eql_map_nil w _ _ _ r Tryd.underlying52
  have hNw : N ≤ w.heap.size := Nat.le_trans h.ln.low (Nat.le_of_lt (blk_lt h.ln.hdr))
  have hqlt := blk_lt h.ln.hdr
  have HQ := Lib.hid h
  have HIN := Lib.hid hin
  have hkey := key_ id hid
  rcases h.look id hid with ⟨x, hl, hno⟩ | ⟨k, hk, e, _⟩
  · have hn0 : n = 0 := by
      rcases h.map with ⟨_, e⟩ | ⟨m', D, e, _⟩
      · exact e
      · cases e
    obtain ⟨W0, hW0⟩ : ∃ W0, W0 = (w.setCell ⟨qb, 1, none⟩ (.map (some w.heap.size))).alloc (.map #[] 0) := ⟨_, rfl⟩
    have hsA : (w.setCell ⟨qb, 1, none⟩ (.map (some w.heap.size))).heap.size = w.heap.size := Deep.nblk_setCell _ _ _
    have hB0 : Below (w.setCell ⟨qb, 1, none⟩ (.map (some w.heap.size))).heap.size (w.setCell ⟨qb, 1, none⟩ (.map (some w.heap.size))) W0 := by rw [hW0]; exact (Below.refl _ _).alloc (Nat.le_refl _) _
    have L0' := (ln_set h.ln 0 (.map (some w.heap.size))).on hB0
    have L0 : Hid (Ln W0 N qb 54 [.map (some w.heap.size), .int .i64 (t : Int)] v n b S) := L0'
    have F0 : Hid (FQ N w W0) := (Fr.fq (Fr.set _ h.ln.hdr h.ln.low (.inr (.inr rfl))) h.ln.hdr).trans (below_fq hB0 N)
    have hown : W0.ownsMap Tryd.prog 3 ptE w.heap.size t (.map [] : DataW Unit) := by
      have := (World.ownsMap_made (w.setCell ⟨qb, 1, none⟩ (.map (some w.heap.size))) Tryd.prog 3 ptE).mono (Nat.zero_le t)
      rw [hsA] at this
      rw [hW0]; exact this
    have c2' : W0.cell? ⟨qb, 2, none⟩ = some (.int .i64 (t : Int)) := cell_of L0'.hdr rfl
    have f2' : W0.frozen? ⟨qb, 2, none⟩ = false := frozen_of L0'.hdr
    have hsz0 : W0.heap.size = w.heap.size + 1 := by rw [hW0, Deep.nblk_alloc, Deep.nblk_setCell]
    have hmlt : w.heap.size < W0.heap.size := by omega
    have hmq : w.heap.size ≠ qb := by omega
    have HD : Hid ((∀ k, k < n → has (.map [] : DataW Unit) (kl (S (b k)).id) = true ∧ (DataW.map [] : DataW Unit).atKey (kl (S (b k)).id) .nil = .lit (.int .i64 (b k))) ∧ (∀ id, inI id → has (.map [] : DataW Unit) (kl id) = true → ∃ k, k < n ∧ (S (b k)).id = id) ∧ IsMap (.map [] : DataW Unit)) :=
      ⟨fun k hk => by omega, fun id _ hh => (by cases hh), hown.isMap⟩
    have HOWN := Lib.hid hown
    have HW0 := Lib.hid hW0
    have hNm : N ≤ w.heap.size := hNw
    have hw0 : w.heap.size ≤ W0.heap.size := by omega
    clear h hf hin hno hown c2 f2 hB0 L0' hW0 hsA
    have mk := run_makeMap (P := Tryd.prog) 52
    have HT := Lib.hid (turn_ qb t W0 c2' f2' (by omega) (by omega))
    go_enter Tryd.func6, Tryd.ntmps6
    go_wp2_with fail
    rw [← HW0.out]
    refine HT.out.mono ?_
    rintro e w1 ⟨rfl, hw1⟩
    have hs1 : w1.heap.size = W0.heap.size := by rw [hw1, Deep.nblk_setCell]
    have L1 : Hid (Ln w1 N qb 54 [.map (some w.heap.size), .int .i64 ((t + 1 : Nat) : Int)] v n b S) := by rw [hw1]; exact ln_set L0.out 1 _
    have F1 : Hid (FQ N w w1) := by rw [hw1]; exact F0.out.trans (Fr.fq (Fr.set _ L0.out.hdr L0.out.low (.inr (.inr rfl))) L0.out.hdr)
    have M1 : Hid (w1.ownsMap Tryd.prog 3 ptE w.heap.size t (.map [] : DataW Unit)) := by rw [hw1]; exact HOWN.out.setCell hmq _
    have cm1 : w1.cell? ⟨qb, 1, none⟩ = some (.map (some w.heap.size)) := cell_of L1.out.hdr rfl
    clear HT HOWN c1 c2' f2' f1 hw1
    go_wp2_with (first
      | (at_mapUpdate; refine wpList_mapUpdate_in _ rfl _ _ _ 52 rfl 3 56 keyed Tryd.underlying52 ptE (w.heap.size) t (.map [] : DataW Unit) rfl (M1.out.alloc _) (by unfold maxLen; omega) _ _ (kl id) rfl rfl hkey (.lit (.int .i64 ((w.heap.size + 1 : Nat) : Int))) [] rfl ?_)
      | fail)
    intro w3 hown3 hturn3
    obtain ⟨X, hX⟩ : ∃ X : Sl, X = ⟨id, rank, ⟨#[]⟩, (t : Int) + 1⟩ := ⟨_, rfl⟩
    have hbB : ∀ k, k < n → b k ≠ w.heap.size + 1 := fun k hk e => by
      have := slot_lt (L1.out.slot k hk).2
      omega
    have hb2 : Below w1.heap.size w1 (w1.alloc (.cells #[.int .i64 id, .int .i64 rank, .string ⟨#[]⟩, .int .i64 ((t : Int) + 1), .int .i64 0] 59)) := (Below.refl _ _).alloc (Nat.le_refl _) _
    have L3 : Ln w3 N qb 54 [.map (some (w.heap.size)), .int .i64 ((t + 1 : Nat) : Int)] v n b (upd S (w.heap.size + 1) X) :=
      (ln_keep (L1.out.on hb2) (turned_keep hturn3)).congr (fun _ _ => rfl) (fun k hk => upd_old (hbB k hk))
    have S3 : SlotAt w3 (w.heap.size + 1) (upd S (w.heap.size + 1) X (w.heap.size + 1)) 0 := by
      have h0 : (w1.alloc (.cells #[.int .i64 id, .int .i64 rank, .string ⟨#[]⟩, .int .i64 ((t : Int) + 1), .int .i64 0] 59)).heap[w.heap.size + 1]? = some (.cells #[.int .i64 id, .int .i64 rank, .string ⟨#[]⟩, .int .i64 ((t : Int) + 1), .int .i64 0] 59 (0, 0)) := by
        have := heap_alloc_new w1 (.cells #[.int .i64 id, .int .i64 rank, .string ⟨#[]⟩, .int .i64 ((t : Int) + 1), .int .i64 0] 59)
        rw [show w1.heap.size = w.heap.size + 1 by omega] at this
        exact this
      show _ = _
      rw [upd_at, hX]
      exact (turned_keep hturn3 _ _ _ _ h0).trans h0
    have H3 : Hp kle (fun k => upd S (w.heap.size + 1) X (b k)) n := fun k hk hkn => by
      have hl := par_lt hk
      show kle (upd S (w.heap.size + 1) X (b (par k))) (upd S (w.heap.size + 1) X (b k))
      rw [upd_old (hbB _ (by omega)), upd_old (hbB k hkn)]
      exact HQ.out.hp k hk hkn
    have HK := Lib.hid (kpush_ L3 (w.heap.size + 1) 0 S3 (by omega) hbB hnl H3)
    unfold ifL at HK
    have HX := Lib.hid hX
    have F3 := Lib.hid ((F1.out.trans (below_fq hb2 N)).trans (turned_fq hturn3 hNm))
    have M3 := Lib.hid hown3
    have HDR3 := Lib.hid L3.hdr
    have HB := Lib.hid hbB
    clear hown3 hturn3 L1 F1 M1 cm1 hb2 L3 S3 H3 hX hbB
    go_wp2_with fail
    refine HK.out.mono ?_
    rintro e w4 ⟨rfl, v', b', L4, H4, P4, F4⟩
    have hm4 : w4.ownsMap Tryd.prog 3 ptE (w.heap.size) (t + 1) (((.map [] : DataW Unit)).put (kl id) (.lit (.int .i64 ((w.heap.size + 1 : Nat) : Int)))) := by
      obtain ⟨es, cl, k1, k2⟩ := M3.out
      exact ⟨es, cl, (F4.map k1 hmq).trans k1, k2⟩
    have HQ4 := qu_push HQ.out id rank hid hrk HIN.out ht X (by rw [HX.out]) (by rw [HX.out]) (by rw [HX.out]) (by rw [HX.out]) HB.out hNm HD.out.1 HD.out.2.1 HD.out.2.2 L4 H4 P4 hm4
    rw [HX.out] at HQ4
    have HE : Hid ((∃ mv' v' b' S', Qu w4 N qb (insL r ⟨id, rank, ⟨#[]⟩, (t : Int) + 1⟩) (t + 1) mv' v' (n + 1) b' S') ∧ FQ N w w4) := ⟨⟨_, _, _, _, HQ4⟩, F3.out.trans (F4.fq HDR3.out)⟩
    clear L4 H4 P4 F4 hm4 HQ4 HK
    go_wp2_with fail
    go_ret
    exact ⟨rfl, HE.out⟩
  · exact absurd e (hin _ (h.cont.1 k hk))
end Go.Proofs.YtnkdhipeklphaaaDoor
