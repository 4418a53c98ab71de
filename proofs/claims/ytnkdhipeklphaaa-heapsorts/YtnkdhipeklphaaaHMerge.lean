/- The walk of the program's Merge. -/
import Derived.Test.YtnkdhipeklphaaaHMrg
import Derived.Test.YtnkdhipeklphaaaHLeast
import Derived.Lib.SliceRun
import Derived.Deep.LoopGhost
namespace Go.Proofs.Ytnkdhipeklphaaa
open Go.RowKit Go.Sort

/-- A row of lists. -/
def RowV (w : World) (R n : Nat) (f : Nat → Value) : Prop := ∃ c, w.heap[R]? = some (.cells c 23 (0, 0)) ∧ n ≤ c.size ∧ ∀ i, i < n → c[i]? = some (f i)
theorem RowV.cell {w : World} {R n i : Nat} {f : Nat → Value} (h : RowV w R n f) (hi : i < n) : w.cell? ⟨R, i, none⟩ = some (f i) ∧ w.frozen? ⟨R, i, none⟩ = false := by
  obtain ⟨c, h1, _, h3⟩ := h
  exact ⟨cell_of h1 (h3 i hi), frozen_of h1⟩
theorem RowV.on {w w' : World} {R n : Nat} {f : Nat → Value} (h : RowV w R n f) (hb : Below w.heap.size w w') : RowV w' R n f := by
  obtain ⟨c, h1, h2⟩ := h
  exact ⟨c, (hb.block R (blk_lt h1)).trans h1, h2⟩
theorem RowV.fr {w w' : World} {N hb R n : Nat} {f : Nat → Value} (h : RowV w R n f) (hf : Fr N hb w w') (hne : R ≠ hb) : RowV w' R n f := by
  obtain ⟨c, h1, h2⟩ := h
  exact ⟨c, hf.keep h1 hne (by decide) (by decide), h2⟩
theorem RowV.set {w : World} {R n : Nat} {f : Nat → Value} (h : RowV w R n f) (i : Nat) (u : Value) : RowV (w.setCell ⟨R, i, none⟩ u) R n (updF f i u) := by
  obtain ⟨c, h1, h2, h3⟩ := h
  refine ⟨_, heap_set u h1, by simpa using h2, fun k hk => ?_⟩
  rw [Array.getElem?_setIfInBounds]
  by_cases e : k = i
  · subst e; rw [if_pos rfl, if_pos (by omega), updF_at]
  · rw [if_neg (fun h => e h.symm), updF_old e]; exact h3 k hk
/-- A list of texts behind a slice. -/
def TxS (w : World) (v : Value) (l : List ByteArray) : Prop := ∃ a c, v = .slice a l.length c ∧ TextsAt w a l.length (fun j => l.getD j ⟨#[]⟩) ∧ l.length ≤ c ∧ c ≤ maxLen
theorem TxS.on {w w' : World} {v : Value} {l : List ByteArray} (h : TxS w v l) (hb : Below w.heap.size w w') : TxS w' v l := by
  obtain ⟨a, c, e, h1, h2⟩ := h
  exact ⟨a, c, e, h1.on rfl hb, h2⟩
theorem info23 : (Try.prog.info? 23).map (fun i => (i.zero, i.size, i.bytes)) = some (some (.slice none 0 0), 1, 24) := by kernel_rfl
theorem info9 : (Try.prog.info? 9).map (fun i => (i.zero, i.size, i.bytes)) = some (some (.string ⟨#[]⟩), 1, 16) := by kernel_rfl
/-- The values in a row. -/
def vls (n : Nat) (f : Nat → Value) : List Value := (List.range n).map f
theorem vls_len (n : Nat) (f : Nat → Value) : (vls n f).length = n := by simp [vls]
theorem vls_get {n k : Nat} {f : Nat → Value} (h : k < n) : (vls n f)[k]? = some (f k) := by simp [vls, h]
set_option maxHeartbeats 1000000 in
theorem clones_ (b o n c : Nat) (f : Nat → Value) (w : World) (hn : 0 < n) (hl : n ≤ 4000000) (hc : ∀ i, i < n → w.cell? ⟨b, o + i, none⟩ = some (f i)) (h1 : ∀ i, i < n → (f i).oneCell' = true) :
    Calls Try.prog 16 #[.slice (some ⟨b, o, none⟩) n c] w fun e w' => (∃ R cap, e = .returned (.slice (some ⟨R, 0, none⟩) n cap) ∧ w.heap.size ≤ R ∧ RowV w' R n f) ∧ Below w.heap.size w w' := by
  have q1 : ∀ (w : World) (a : Option Addr) (n c n' c' : Nat), (binOp .eql 22 (.slice a n c) (.slice none n' c')).run Try.prog w = .ok (.bool a.isNone) w := fun w a n c n' c' => Lib.run_eql_slice_nil w _ _ a n c n' c' Try.underlying22
  obtain ⟨i0, hi, hz0, hz1, hz2⟩ := info_parts info23
  have HNW : Hid (∀ W, Below w.heap.size w W → ∀ j u, (vls n f)[j]? = some u → W.cell? ((⟨b, o, none⟩ : Addr).add j) = some u) := fun W hW j u hj => by
    have hjn : j < n := by
      rcases Nat.lt_or_ge j n with hl | hl
      · exact hl
      · rw [List.getElem?_eq_none (by rw [vls_len]; exact hl)] at hj; cases hj
    rw [vls_get hjn] at hj
    cases hj
    rw [Addr.add_lit]
    exact (hW.cell (block_lt_of_cell (hc j hjn))).trans (hc j hjn)
  have HONE : Hid (∀ u ∈ vls n f, u.oneCell' = true) := fun u hu => by
    obtain ⟨k, hk, rfl⟩ := List.mem_map.1 hu
    exact h1 k (List.mem_range.1 hk)
  have hlen := vls_len n f
  clear hc h1
  go_enter Try.func16, Try.ntmps16
  go_wp2_with (first
    | (at_builtin; refine wpList_append_own _ rfl _ _ 22 rfl w.heap.size 23 i0 (.slice none 0 0) 1 24 Try.underlying22 hi hz0 hz1 hz2 rfl (by decide) _ _ _ rfl (World.ownsRow_made w #[] 0 (Nat.le_refl _) (Nat.zero_le _) (by simp)) ⟨b, o, none⟩ n c (vls n f) rfl (by rw [hlen]; omega) (HNW.out _ ((Below.refl _ _).alloc (Nat.le_refl _) _)) HONE.out (by unfold maxLen; omega) (by omega) (by simp) ?_)
    | fail)
  intro v' w2 hown hgrow _
  have HB : Hid (Below w.heap.size w w2) := by
    refine ⟨hgrow.os, hgrow.tape, hgrow.output, Nat.le_trans (by simp) hgrow.size, fun k hk => ?_⟩
    refine (hgrow.block k (by simp; omega) (fun e => ?_)).trans (((Below.refl _ _).alloc (Nat.le_refl _) _ : Below w.heap.size w (w.alloc (.cells #[] 23))).block k hk)
    simp only [Value.ownBlock, Option.some.injEq] at e
    omega
  obtain ⟨R, cap, rfl, hR, hrow⟩ : ∃ R cap, v' = .slice (some ⟨R, 0, none⟩) n cap ∧ w.heap.size ≤ R ∧ RowV w2 R n f := by
    rcases hown.2 with ⟨_, h0⟩ | ⟨g, cap, cur, e, k1, k2, k3, k4, k5, k6⟩
    · omega
    · refine ⟨g, cap, by simpa using e, k1, cur, k2, by omega, fun i hi => ?_⟩
      have := vls_get (f := f) hi
      rw [← k6, List.getElem?_take_of_lt (by omega), Array.getElem?_toList] at this
      exact this
  have HR := Lib.hid hrow
  clear hown hgrow HNW hrow
  go_wp2_with fail
  go_ret
  exact ⟨⟨R, cap, rfl, hR, HR.out⟩, HB.out⟩
/-- The first one of a line, and where it stands. -/
def FB (w : World) (N hb : Nat) (x : Sl) (m g cap B : Nat) : Prop := w.heap[hb]? = some (.cells ⟨[.slice (some ⟨g, 0, none⟩) m cap]⟩ 45 (0, 0)) ∧ (∃ cc, w.heap[g]? = some (.cells cc 48 (0, 0)) ∧ cc[0]? = some (pt B)) ∧ SlotAt w B x 0 ∧ N ≤ B
theorem Li.fb {w : World} {N hb : Nat} {r : List Sl} {x : Sl} (h : Li w N hb (x :: r)) : ∃ g cap B, FB w N hb x (r.length + 1) g cap B := by
  obtain ⟨v, n, b, S, h1, h2, h3, h4⟩ := h
  have hn : (x :: r).length = n := h3.2.2.2
  have hx : S (b 0) = x := cont_head h3 h4 h2
  obtain ⟨g, cap, c, rfl, _, hg, _, _, _, hc, _⟩ := h1.some (by simp at hn; omega)
  have hs := h1.slot 0 (by simp at hn; omega)
  rw [hx] at hs
  have hd := h1.hdr
  rw [← hn] at hd
  exact ⟨g, cap, b 0, hd, ⟨c, hg, hc 0 (by simp at hn; omega)⟩, hs.2, hs.1⟩
theorem FB.keep {w w' : World} {N hb m g cap B : Nat} {x : Sl} (h : FB w N hb x m g cap B) (hk : ∀ (k : Nat) (c : Array Value) (t : TypeId) (z : Nat × Nat), w.heap[k]? = some (.cells c t z) → (t = 45 ∨ t = 48 ∨ t = 51) → w'.heap[k]? = w.heap[k]?) : FB w' N hb x m g cap B := by
  obtain ⟨h1, ⟨cc, h2, h3⟩, h4, h5⟩ := h
  exact ⟨(hk _ _ _ _ h1 (.inl rfl)).trans h1, ⟨cc, (hk _ _ _ _ h2 (.inr (.inl rfl))).trans h2, h3⟩, (hk _ _ _ _ h4 (.inr (.inr rfl))).trans h4, h5⟩
theorem li_keep {w w' : World} {N hb : Nat} {r : List Sl} (h : Li w N hb r) (hk : ∀ (k : Nat) (c : Array Value) (t : TypeId) (z : Nat × Nat), w.heap[k]? = some (.cells c t z) → (t = 45 ∨ t = 48 ∨ t = 51) → w'.heap[k]? = w.heap[k]?) : Li w' N hb r := by
  obtain ⟨v, n, b, S, h1, h2⟩ := h
  exact ⟨v, n, b, S, ln_keep2 h1 hk, h2⟩
/-- A row of another type grows. -/
theorem keep_grown {w w' : World} {base sz n : Nat} {t0 : TypeId} {v : Value} {xs : List Value} {o : Obj} (ho : w.ownsRow base t0 sz v n xs) (hg : (w.alloc o).grownBy w' v.ownBlock) : ∀ (k : Nat) (c : Array Value) (t : TypeId) (z : Nat × Nat), w.heap[k]? = some (.cells c t z) → t ≠ t0 → w'.heap[k]? = w.heap[k]? := by
  intro q cs t z hq ht
  have hql := blk_lt hq
  refine (hg.block q (by simp; omega) (fun e => ?_)).trans (((Below.refl _ _).alloc (Nat.le_refl _) o : Below w.heap.size w (w.alloc o)).block q hql)
  rcases ho.2 with ⟨rfl, _⟩ | ⟨g, cap, cur, rfl, _, hgb, _⟩
  · cases e
  · simp only [Value.ownBlock, Option.some.injEq] at e
    subst e
    rw [hgb] at hq
    simp only [Option.some.injEq, Obj.cells.injEq] at hq
    exact ht hq.2.1.symm
/-- Texts in a row of one's own. -/
def strs (l : List ByteArray) : List Value := l.map .string
def OwnT (w : World) (base : Nat) (v : Value) (l : List ByteArray) : Prop := w.ownsRow base 9 1 v l.length (strs l)
theorem strs_snoc (l : List ByteArray) (s : ByteArray) : strs l ++ [.string s] = strs (l ++ [s]) := by simp [strs]
theorem one_str (s : ByteArray) : ∀ u ∈ [Value.string s], u.oneCell' = true := by intro u hu; simp at hu; subst hu; rfl
set_option maxHeartbeats 2000000 in
theorem merge_ (b o n c : Nat) (f : Nat → Value) (cur0 : Nat → List ByteArray) (w : World) (hn : 0 < n) (hl : n ≤ 4000000) (hc : ∀ i, i < n → w.cell? ⟨b, o + i, none⟩ = some (f i)) (ht : ∀ i, i < n → TxS w (f i) (cur0 i)) (htot : tot cur0 n ≤ 4000000) :
    Calls Try.prog 6 #[.slice (some ⟨b, o, none⟩) n c] w fun e w' => (∃ v out, e = .returned v ∧ OwnT w' w.heap.size v out ∧ Mg n cur0 out) ∧ Below w.heap.size w w' := by
  have HC := Lib.hid (clones_ b o n c f w hn hl hc (fun i hi => by obtain ⟨a, c, e, _⟩ := ht i hi; rw [e]; rfl))
  have HT := Lib.hid ht
  have HTOT := Lib.hid htot
  obtain ⟨i0, hi, hz0, hz1, hz2⟩ := info_parts info9
  clear hc ht htot
  go_enter Try.func6, Try.ntmps6
  go_wp2_with fail
  refine HC.out.mono ?_
  rintro e w1 ⟨⟨R, cap, rfl, hR, hrow⟩, hb1⟩
  obtain ⟨hb, hhb⟩ : ∃ hb, hb = w1.heap.size := ⟨_, rfl⟩
  obtain ⟨W0, hW0⟩ : ∃ W0, W0 = w1.alloc (.cells #[.slice none 0 0] 45) := ⟨_, rfl⟩
  have hbA : Below w1.heap.size w1 W0 := by rw [hW0]; exact (Below.refl _ _).alloc (Nat.le_refl _) _
  have HB0 : Hid (Below w.heap.size w W0) := below_step hb1 hbA
  have HL0 : Hid (Li W0 w.heap.size hb []) := by rw [hW0, hhb]; exact li_new hb1.size
  have HR0 := Lib.hid (hrow.on hbA)
  have hRhb : R ≠ hb := by obtain ⟨cc, k1, _⟩ := hrow; have := blk_lt k1; omega
  have hhw : w.heap.size ≤ hb := by rw [hhb]; exact hb1.size
  have HW0 := Lib.hid hW0
  have HHB := Lib.hid hhb
  clear hrow hb1 hbA hW0 HC hhb
  go_wp2_with fail
  rw [← HW0.out, ← HHB.out]
  go_loopw [13] (fun iv wr => ∃ i : Nat, i ≤ n ∧ iv = .int .i64 i ∧ Hid (∃ r, Li wr w.heap.size hb r ∧ HD i cur0 r ∧ RowV wr R n f ∧ Below w.heap.size w wr ∧ r.length ≤ i)) (fun iv _ => n - (intOf iv).toNat)
  case atStart => exact ⟨0, Nat.zero_le _, rfl, [], HL0.out, hd_zero _, HR0.out, HB0.out, Nat.le_refl _⟩
  case round =>
    obtain ⟨i, hin, rfl, H⟩ := hrel
    clear HL0 HB0 HR0 HW0 HHB
    obtain ⟨r, hli, hhd, hrow, hbw, hrl⟩ := H.out
    by_cases hlt : i < n
    · have hlt2 : (i : Int) < (n : Int) := by omega
      obtain ⟨a', c', ef, htx, hlc, _⟩ := (HT.out i hlt).on hbw
      have q0 := (hrow.cell hlt).1
      rw [ef] at q0
      cases hcu : cur0 i with
      | nil =>
        rw [hcu] at q0
        have HE : Hid (∃ r, Li wr w.heap.size hb r ∧ HD (i + 1) cur0 r ∧ RowV wr R n f ∧ Below w.heap.size w wr ∧ r.length ≤ i + 1) := ⟨r, hli, hd_skip hhd hcu, hrow, hbw, by omega⟩
        clear hli hhd hrow hbw H htx hcu ef
        go_wp2_with fail
        go_roundw
        case rel => exact ⟨i + 1, by omega, by go_num, HE.out⟩
        case measure => simp [intOf]; omega
      | cons s t =>
        rw [hcu] at q0 htx
        obtain ⟨b', o', rfl, q1⟩ := htx 0 (by simp)
        simp only [List.getD_cons_zero, Nat.add_zero] at q1
        have HS := Lib.hid (slot_ i s wr)
        have hlen : ((t.length : Int) + 1 > 0) := by omega
        have HHD := Lib.hid (hd_more hhd hcu)
        have HLI := Lib.hid hli
        have HROW := Lib.hid hrow
        have HBW := Lib.hid hbw
        have hsz := hbw.size
        clear hli hhd hrow hbw H htx hcu ef
        go_wp2_with fail
        refine HS.out.mono ?_
        rintro e w2 ⟨rfl, hs2, hb2⟩
        have HP := Lib.hid (li_push HLI.out hb2 (Nat.le_refl _) hsz hs2 HHD.out.2 (by omega))
        have HB2 := Lib.hid (below_step HBW.out hb2)
        have HROW2 := Lib.hid (HROW.out.on hb2)
        clear hs2 hb2 HS q0 q1 HROW HBW
        go_wp2_with fail
        refine HP.out.mono ?_
        rintro e w3 ⟨rfl, hl3, hf3⟩
        have HE : Hid (∃ r, Li w3 w.heap.size hb r ∧ HD (i + 1) cur0 r ∧ RowV w3 R n f ∧ Below w.heap.size w w3 ∧ r.length ≤ i + 1) := ⟨_, hl3, HHD.out.1, HROW2.out.fr hf3 hRhb, HB2.out.trans (hf3.below HB2.out.size), by rw [len_ins]; omega⟩
        clear hl3 hf3 HP HB2 HROW2 HHD HLI
        go_wp2_with fail
        go_roundw
        case rel => exact ⟨i + 1, by omega, by go_num, HE.out⟩
        case measure => simp [intOf]; omega
    · obtain rfl : i = n := by omega
      obtain ⟨B0, hB0⟩ : ∃ B0, B0 = wr.heap.size := ⟨_, rfl⟩
      have HS : Hid (∃ (cur : Nat → List ByteArray) (r : List Sl) (dn : List ByteArray) (f' : Nat → Value), tot cur i + 1 ≤ tot cur0 i + 1 ∧ Li wr w.heap.size hb r ∧ HD i cur r ∧ RowV wr R i f' ∧ (∀ k, k < i → TxS w (f' k) (cur k)) ∧ OwnT wr B0 (.slice none 0 0) dn ∧ (∀ o, Mg i cur o → Mg i cur0 (dn ++ o)) ∧ dn.length + tot cur i = tot cur0 i ∧ Below w.heap.size w wr ∧ B0 ≤ wr.heap.size) :=
        ⟨cur0, r, [], f, Nat.le_refl _, hli, hhd, hrow, HT.out, World.ownsRow_nil _ _ _ _, fun o h => h, by simp, hbw, Nat.le_of_eq hB0⟩
      have hB0w : w.heap.size ≤ B0 := by rw [hB0]; exact hbw.size
      have hhB : hb < B0 := by rw [hB0]; obtain ⟨v, n', b', S', k1, _⟩ := hli; exact blk_lt k1.hdr
      have hRB : R < B0 := by rw [hB0]; obtain ⟨cc, k1, _⟩ := hrow; exact blk_lt k1
      clear hli hhd hrow hbw H hB0 HT
      go_wp2_with fail
      go_loopg [7] (tot cur0 i + 1) (fun g ov wq => ∃ (cur : Nat → List ByteArray) (r : List Sl) (dn : List ByteArray) (f' : Nat → Value), tot cur i + 1 ≤ g ∧ Hid (Li wq w.heap.size hb r ∧ HD i cur r ∧ RowV wq R i f' ∧ (∀ k, k < i → TxS w (f' k) (cur k)) ∧ OwnT wq B0 ov dn ∧ (∀ o, Mg i cur o → Mg i cur0 (dn ++ o)) ∧ dn.length + tot cur i = tot cur0 i ∧ Below w.heap.size w wq ∧ B0 ≤ wq.heap.size))
      case atStart =>
        obtain ⟨cur, r, dn, f', k1, k2⟩ := HS.out
        exact ⟨cur, r, dn, f', k1, k2⟩
      case round =>
        obtain ⟨cur, r, dn, f', hg, H⟩ := hrel
        clear HS
        cases r with
        | nil =>
          obtain ⟨_, a1, c1, hc0⟩ := H.out.1.len
          simp only [List.length_nil] at hc0
          have HE : Hid ((OwnT wr w.heap.size u7 dn ∧ Mg i cur0 dn) ∧ Below w.heap.size w wr) := by
            obtain ⟨k1, k2, k3, k4, k5, k6, k7, k8, k9⟩ := H.out
            refine ⟨⟨⟨k5.1, ?_⟩, ?_⟩, k8⟩
            · rcases k5.2 with h1 | ⟨g', cap', cur', e, h1, h2⟩
              · exact .inl h1
              · exact .inr ⟨g', cap', cur', e, by omega, h2⟩
            · have := k6 [] (Mg.done k2.none)
              simpa using this
          clear H
          go_wp2_with fail
          go_ret
          exact ⟨⟨_, dn, rfl, HE.out.1⟩, HE.out.2⟩
        | cons x r =>
          obtain ⟨hli, hhd, hrow, htx, hown, hmg, hdl, hbw, hBs⟩ := H.out
          obtain ⟨k, s, t, hk, ecur, hx, hahead⟩ := hhd.first
          obtain ⟨g', cap', B, hfb⟩ := hli.fb
          subst hx
          have c0 := cell_of (o := 0) hfb.1 rfl
          obtain ⟨cc, hcc, hcc0⟩ := hfb.2.1
          have c1 := cell_of hcc hcc0
          obtain ⟨s0, s1, s2, s3, s4⟩ := hfb.2.2.1.cells
          unfold pt at c1
          have hrow0 := hrow.cell hk
          obtain ⟨a', c', ef, htxk, hlc, _⟩ := htx k hk
          rw [ecur] at ef htxk hlc
          have HH := Lib.hid H.out
          have HFB := Lib.hid hfb
          have HHD := Lib.hid hhd
          have HA := Lib.hid hahead
          have hlim : dn.length + 1 ≤ 4000001 := by have := HTOT.out; omega
          simp only [txS] at s0 s2
          obtain ⟨b', o', rfl, q1⟩ := htxk 0 (by simp)
          have HTX := Lib.hid htxk
          have HOWN := Lib.hid hown
          have hUD : Hid (OwnT wr B0 u7 dn) := HOWN
          clear hli hhd hrow htx hmg hbw hfb hahead hcc hcc0 hown H htxk q1
          go_wp2_with (first
            | (at_builtin; refine wpList_append_own _ rfl _ _ 23 rfl B0 9 i0 (.string ⟨#[]⟩) 1 16 Try.underlying23 hi hz0 hz1 hz2 rfl (by decide) _ _ _ rfl (World.ownsRow.alloc HOWN.out _) ⟨wr.heap.size, 0, none⟩ 1 1 [.string s] rfl rfl (one_cell _ _ _) (one_str _) (by unfold maxLen; omega) (by omega) (by simp; omega) ?_)
            | fail)
          intro v2 w2 hown2 hgrow2 _
          have K2 := keep_grown HOWN.out hgrow2
          obtain ⟨kli, khd, krow, ktx, kown, kmg, kdl, kbw, kBs⟩ := HH.out
          have K2' : ∀ (k : Nat) (c : Array Value) (t : TypeId) (z : Nat × Nat), wr.heap[k]? = some (.cells c t z) → (t = 45 ∨ t = 48 ∨ t = 51) → w2.heap[k]? = wr.heap[k]? := fun q cs ty z hq ht => K2 q cs ty z hq (by rcases ht with rfl | rfl | rfl <;> decide)
          have hfb2 := HFB.out.keep K2'
          have hli2 := li_keep kli K2'
          have hrow2 : RowV w2 R i f' := by
            obtain ⟨rc, k1, k2⟩ := krow
            exact ⟨rc, (K2 _ _ _ _ k1 (by decide)).trans k1, k2⟩
          have hbB : Below B0 wr w2 := (((Below.refl _ _).alloc (Nat.le_refl _) _ : Below wr.heap.size wr (wr.alloc (.cells #[.string s] 9))).mono kBs).grown hgrow2 (by simp; omega) (fun g' hg' => (World.ownsRow.lt HOWN.out g' hg').1)
          have hbw2 : Below w.heap.size w w2 := kbw.trans (hbB.mono hB0w)
          have hown2' : OwnT w2 B0 v2 (dn ++ [s]) := by
            unfold OwnT
            rw [← strs_snoc, List.length_append, List.length_singleton]
            exact hown2
          obtain ⟨d0, _, _, _, d4⟩ := hfb2.2.2.1.cells
          simp only [txS] at d0
          have hrc := hrow2.cell hk
          have hrf := hrc.2
          have hrv := hrc.1
          rw [ef] at hrv
          have hB2 := hfb2.2.2.2
          have HFB2 := Lib.hid hfb2
          have HLI2 := Lib.hid hli2
          have HROW2 := Lib.hid hrow2
          have HBW2 := Lib.hid hbw2
          have HOWN2 := Lib.hid hown2'
          have HTX2 := Lib.hid (HTX.out.on rfl hbw2)
          have HBS2 : Hid (B0 ≤ w2.heap.size) := Nat.le_trans kBs hbB.size
          have hgB : B < w2.heap.size := slot_lt hfb2.2.2.1
          have hRB2 : R ≠ B := fun e => by
            obtain ⟨rc, k1, _⟩ := hrow2
            have := hfb2.2.2.1
            rw [SlotAt, ← e, k1] at this; simp at this
          have hkI : (k : Int) < (i : Int) := by omega
          clear hfb2 hli2 hrow2 hbw2 hown2' hbB K2 K2' hown2 hgrow2 kli khd krow ktx kown kmg kdl kbw kBs c0 c1 s0 s1 s2 s3 s4 hrow0 hrc
          by_cases hc1 : c' = 1
          · have htn : t = [] := List.eq_nil_of_length_eq_zero (by simp at hlc; omega)
            subst htn
            subst hc1
            have TXNEW : Hid (TxS w (.slice (some ⟨b', o', none⟩) 0 0) []) := ⟨_, _, rfl, fun j hj => by simp at hj, Nat.le_refl _, by unfold maxLen; omega⟩
            simp only [List.length_cons, List.length_nil, Nat.zero_add] at hrv
            obtain ⟨w3, hw3⟩ : ∃ w3, w3 = w2.setCell ⟨R, k, none⟩ (.slice (some ⟨b', o', none⟩) 0 0) := ⟨_, rfl⟩
            have hrow3 : RowV w3 R i (updF f' k (.slice (some ⟨b', o', none⟩) 0 0)) := by rw [hw3]; exact HROW2.out.set k _
            have K3 : ∀ (q : Nat) (cs : Array Value) (ty : TypeId) (z : Nat × Nat), w2.heap[q]? = some (.cells cs ty z) → (ty = 45 ∨ ty = 48 ∨ ty = 51) → w3.heap[q]? = w2.heap[q]? := fun q cs ty z hq ht => by
              rw [hw3]
              refine heap_far _ fun e => ?_
              obtain ⟨rc, k1, _⟩ := HROW2.out
              rw [e, k1] at hq
              simp only [Option.some.injEq, Obj.cells.injEq] at hq
              rcases ht with rfl | rfl | rfl
              · exact absurd hq.2.1 (by decide)
              · exact absurd hq.2.1 (by decide)
              · exact absurd hq.2.1 (by decide)
            have hli3 := li_keep HLI2.out K3
            have hfb3 := HFB2.out.keep K3
            have hbw3 : Below w.heap.size w w3 := by rw [hw3]; exact HBW2.out.setCell hR _
            have hown3 : OwnT w3 B0 v2 (dn ++ [s]) := by
              rw [hw3]
              refine ⟨HOWN2.out.1, ?_⟩
              rcases HOWN2.out.2 with h1 | ⟨g2, cap2, cur2, e, h1, h2⟩
              · exact .inl h1
              · exact .inr ⟨g2, cap2, cur2, e, h1, by rw [heap_far _ (by omega)]; exact h2.1, h2.2⟩
            have hs3 : w3.heap.size = w2.heap.size := by rw [hw3, Deep.nblk_setCell]
            have e3 := (hrow3.cell hk).1
            rw [updF_at] at e3
            obtain ⟨f0, _, _, _, f4⟩ := hfb3.2.2.1.cells
            simp only [txS] at f0
            have HW3 := Lib.hid hw3
            have HLI3 := Lib.hid hli3
            have HFB3 := Lib.hid hfb3
            have HROW3 := Lib.hid hrow3
            have HBW3 := Lib.hid hbw3
            have HOWN3 := Lib.hid hown3
            have HTX3 : Hid (∀ q, q < i → TxS w (updF f' k (.slice (some ⟨b', o', none⟩) 0 0) q) (updF cur k ([]) q)) := fun q hq => by
              by_cases e : q = k
              · subst e; rw [updF_at, updF_at]; exact TXNEW.out
              · rw [updF_old e, updF_old e]; exact HH.out.2.2.2.1 q hq
            have HTOT3 : Hid (tot (updF cur k ([])) i + 1 = tot cur i) := tot_upd ecur hk
            clear hli3 hfb3 hrow3 hbw3 hown3 hw3 K3
            go_wp2_with fail
            go_region
            rw [← HW3.out]
            have HT4 := Lib.hid (li_take (HLI3.out.on (below_drew w3)))
            go_wp2_with fail
            refine HT4.out.mono ?_
            rintro e w4 ⟨⟨B4, p4, rfl, hs4, hN4⟩, hl4, hf4⟩
            have HE : Hid (Li w4 w.heap.size hb r ∧ HD i (updF cur k []) r ∧ RowV w4 R i (updF f' k (.slice (some ⟨b', o', none⟩) 0 0)) ∧ (∀ q, q < i → TxS w (updF f' k (.slice (some ⟨b', o', none⟩) 0 0) q) (updF cur k [] q)) ∧ OwnT w4 B0 v2 (dn ++ [s]) ∧ (∀ o, Mg i (updF cur k []) o → Mg i cur0 (dn ++ [s] ++ o)) ∧ (dn ++ [s]).length + tot (updF cur k []) i = tot cur0 i ∧ Below w.heap.size w w4 ∧ B0 ≤ w4.heap.size) := by
              refine ⟨hl4, HHD.out.off, (HROW3.out.on (below_drew w3)).fr hf4 hRhb, HTX3.out, ?_, fun o ho => ?_, ?_, ?_, ?_⟩
              · refine ⟨HOWN3.out.1, ?_⟩
                rcases HOWN3.out.2 with h1 | ⟨g2, cap2, cur2, e, h1, h2⟩
                · exact .inl h1
                · exact .inr ⟨g2, cap2, cur2, e, h1, hf4.keep (((below_drew w3).block _ (blk_lt h2.1)).trans h2.1) (by omega) (by decide) (by decide), h2.2⟩
              · have := HH.out.2.2.2.2.2.1 (s :: o) (Mg.step hk ecur HA.out ho)
                simpa using this
              · rw [List.length_append, List.length_singleton]
                have := HTOT3.out
                omega
              · exact (below_step HBW3.out (below_drew w3)).trans (hf4.below (below_step HBW3.out (below_drew w3)).size)
              · have h1 := hf4.size; have h2 := HBS2.out; have h3 := (below_drew w3).size; omega
            have hg4 := HTOT3.out
            clear hs4 hl4 hf4 HT4
            go_wp2_with fail
            go_roundg (tot (updF cur k []) i + 1)
            case measure => omega
            case rel => exact ⟨updF cur k [], r, dn ++ [s], updF f' k (.slice (some ⟨b', o', none⟩) 0 0), Nat.le_refl _, HE.out⟩
          · cases t with
            | nil =>
              have TXNEW : Hid (TxS w (.slice (some ⟨b', o' + 1, none⟩) 0 (c' - 1)) []) := ⟨_, _, rfl, fun j hj => by simp at hj, Nat.zero_le _, by unfold maxLen at *; omega⟩
              simp only [List.length_cons, List.length_nil, Nat.zero_add] at hrv hlc
              obtain ⟨w3, hw3⟩ : ∃ w3, w3 = w2.setCell ⟨R, k, none⟩ (.slice (some ⟨b', o' + 1, none⟩) 0 (c' - 1)) := ⟨_, rfl⟩
              have hrow3 : RowV w3 R i (updF f' k (.slice (some ⟨b', o' + 1, none⟩) 0 (c' - 1))) := by rw [hw3]; exact HROW2.out.set k _
              have K3 : ∀ (q : Nat) (cs : Array Value) (ty : TypeId) (z : Nat × Nat), w2.heap[q]? = some (.cells cs ty z) → (ty = 45 ∨ ty = 48 ∨ ty = 51) → w3.heap[q]? = w2.heap[q]? := fun q cs ty z hq ht => by
                rw [hw3]
                refine heap_far _ fun e => ?_
                obtain ⟨rc, k1, _⟩ := HROW2.out
                rw [e, k1] at hq
                simp only [Option.some.injEq, Obj.cells.injEq] at hq
                rcases ht with rfl | rfl | rfl
                · exact absurd hq.2.1 (by decide)
                · exact absurd hq.2.1 (by decide)
                · exact absurd hq.2.1 (by decide)
              have hli3 := li_keep HLI2.out K3
              have hfb3 := HFB2.out.keep K3
              have hbw3 : Below w.heap.size w w3 := by rw [hw3]; exact HBW2.out.setCell hR _
              have hown3 : OwnT w3 B0 v2 (dn ++ [s]) := by
                rw [hw3]
                refine ⟨HOWN2.out.1, ?_⟩
                rcases HOWN2.out.2 with h1 | ⟨g2, cap2, cur2, e, h1, h2⟩
                · exact .inl h1
                · exact .inr ⟨g2, cap2, cur2, e, h1, by rw [heap_far _ (by omega)]; exact h2.1, h2.2⟩
              have hs3 : w3.heap.size = w2.heap.size := by rw [hw3, Deep.nblk_setCell]
              have e3 := (hrow3.cell hk).1
              rw [updF_at] at e3
              obtain ⟨f0, _, _, _, f4⟩ := hfb3.2.2.1.cells
              simp only [txS] at f0
              have HW3 := Lib.hid hw3
              have HLI3 := Lib.hid hli3
              have HFB3 := Lib.hid hfb3
              have HROW3 := Lib.hid hrow3
              have HBW3 := Lib.hid hbw3
              have HOWN3 := Lib.hid hown3
              have HTX3 : Hid (∀ q, q < i → TxS w (updF f' k (.slice (some ⟨b', o' + 1, none⟩) 0 (c' - 1)) q) (updF cur k ([]) q)) := fun q hq => by
                by_cases e : q = k
                · subst e; rw [updF_at, updF_at]; exact TXNEW.out
                · rw [updF_old e, updF_old e]; exact HH.out.2.2.2.1 q hq
              have HTOT3 : Hid (tot (updF cur k ([])) i + 1 = tot cur i) := tot_upd ecur hk
              clear hli3 hfb3 hrow3 hbw3 hown3 hw3 K3
              go_wp2_with fail
              go_region
              rw [← HW3.out]
              have HT4 := Lib.hid (li_take (HLI3.out.on (below_drew w3)))
              go_wp2_with fail
              refine HT4.out.mono ?_
              rintro e w4 ⟨⟨B4, p4, rfl, hs4, hN4⟩, hl4, hf4⟩
              have HE : Hid (Li w4 w.heap.size hb r ∧ HD i (updF cur k []) r ∧ RowV w4 R i (updF f' k (.slice (some ⟨b', o' + 1, none⟩) 0 (c' - 1))) ∧ (∀ q, q < i → TxS w (updF f' k (.slice (some ⟨b', o' + 1, none⟩) 0 (c' - 1)) q) (updF cur k [] q)) ∧ OwnT w4 B0 v2 (dn ++ [s]) ∧ (∀ o, Mg i (updF cur k []) o → Mg i cur0 (dn ++ [s] ++ o)) ∧ (dn ++ [s]).length + tot (updF cur k []) i = tot cur0 i ∧ Below w.heap.size w w4 ∧ B0 ≤ w4.heap.size) := by
                refine ⟨hl4, HHD.out.off, (HROW3.out.on (below_drew w3)).fr hf4 hRhb, HTX3.out, ?_, fun o ho => ?_, ?_, ?_, ?_⟩
                · refine ⟨HOWN3.out.1, ?_⟩
                  rcases HOWN3.out.2 with h1 | ⟨g2, cap2, cur2, e, h1, h2⟩
                  · exact .inl h1
                  · exact .inr ⟨g2, cap2, cur2, e, h1, hf4.keep (((below_drew w3).block _ (blk_lt h2.1)).trans h2.1) (by omega) (by decide) (by decide), h2.2⟩
                · have := HH.out.2.2.2.2.2.1 (s :: o) (Mg.step hk ecur HA.out ho)
                  simpa using this
                · rw [List.length_append, List.length_singleton]
                  have := HTOT3.out
                  omega
                · exact (below_step HBW3.out (below_drew w3)).trans (hf4.below (below_step HBW3.out (below_drew w3)).size)
                · have h1 := hf4.size; have h2 := HBS2.out; have h3 := (below_drew w3).size; omega
              have hg4 := HTOT3.out
              clear hs4 hl4 hf4 HT4
              go_wp2_with fail
              go_roundg (tot (updF cur k []) i + 1)
              case measure => omega
              case rel => exact ⟨updF cur k [], r, dn ++ [s], updF f' k (.slice (some ⟨b', o' + 1, none⟩) 0 (c' - 1)), Nat.le_refl _, HE.out⟩
            | cons s2 t2 =>
              have TXNEW : Hid (TxS w (.slice (some ⟨b', o' + 1, none⟩) (t2.length + 1) (c' - 1)) (s2 :: t2)) := by
                refine ⟨_, _, rfl, fun j hj => ?_, by simp at hlc ⊢; omega, by unfold maxLen at *; omega⟩
                obtain ⟨b2, o2, e2, h2⟩ := HTX.out (j + 1) (by simp at hj ⊢; omega)
                cases e2
                exact ⟨b', o' + 1, rfl, by rw [show o' + 1 + j = o' + (j + 1) by omega]; simpa using h2⟩
              have HQ2 : Hid (∀ W, Below w.heap.size w W → W.cell? ⟨b', o' + 1, none⟩ = some (.string s2)) := fun W hW => by
                obtain ⟨b2, o2, e2, h2⟩ := (HTX.out.on rfl hW) 1 (by simp)
                cases e2
                simpa using h2
              simp only [List.length_cons] at hrv hlc
              obtain ⟨w3, hw3⟩ : ∃ w3, w3 = w2.setCell ⟨R, k, none⟩ (.slice (some ⟨b', o' + 1, none⟩) (t2.length + 1) (c' - 1)) := ⟨_, rfl⟩
              have hrow3 : RowV w3 R i (updF f' k (.slice (some ⟨b', o' + 1, none⟩) (t2.length + 1) (c' - 1))) := by rw [hw3]; exact HROW2.out.set k _
              have K3 : ∀ (q : Nat) (cs : Array Value) (ty : TypeId) (z : Nat × Nat), w2.heap[q]? = some (.cells cs ty z) → (ty = 45 ∨ ty = 48 ∨ ty = 51) → w3.heap[q]? = w2.heap[q]? := fun q cs ty z hq ht => by
                rw [hw3]
                refine heap_far _ fun e => ?_
                obtain ⟨rc, k1, _⟩ := HROW2.out
                rw [e, k1] at hq
                simp only [Option.some.injEq, Obj.cells.injEq] at hq
                rcases ht with rfl | rfl | rfl
                · exact absurd hq.2.1 (by decide)
                · exact absurd hq.2.1 (by decide)
                · exact absurd hq.2.1 (by decide)
              have hli3 := li_keep HLI2.out K3
              have hfb3 := HFB2.out.keep K3
              have hbw3 : Below w.heap.size w w3 := by rw [hw3]; exact HBW2.out.setCell hR _
              have hown3 : OwnT w3 B0 v2 (dn ++ [s]) := by
                rw [hw3]
                refine ⟨HOWN2.out.1, ?_⟩
                rcases HOWN2.out.2 with h1 | ⟨g2, cap2, cur2, e, h1, h2⟩
                · exact .inl h1
                · exact .inr ⟨g2, cap2, cur2, e, h1, by rw [heap_far _ (by omega)]; exact h2.1, h2.2⟩
              have hs3 : w3.heap.size = w2.heap.size := by rw [hw3, Deep.nblk_setCell]
              have e3 := (hrow3.cell hk).1
              rw [updF_at] at e3
              obtain ⟨f0, _, _, _, f4⟩ := hfb3.2.2.1.cells
              simp only [txS] at f0
              have HW3 := Lib.hid hw3
              have HLI3 := Lib.hid hli3
              have HFB3 := Lib.hid hfb3
              have HROW3 := Lib.hid hrow3
              have HBW3 := Lib.hid hbw3
              have HOWN3 := Lib.hid hown3
              have HTX3 : Hid (∀ q, q < i → TxS w (updF f' k (.slice (some ⟨b', o' + 1, none⟩) (t2.length + 1) (c' - 1)) q) (updF cur k (s2 :: t2) q)) := fun q hq => by
                by_cases e : q = k
                · subst e; rw [updF_at, updF_at]; exact TXNEW.out
                · rw [updF_old e, updF_old e]; exact HH.out.2.2.2.1 q hq
              have HTOT3 : Hid (tot (updF cur k (s2 :: t2)) i + 1 = tot cur i) := tot_upd ecur hk
              clear hli3 hfb3 hrow3 hbw3 hown3 hw3 K3
              go_wp2_with fail
              go_region
              rw [← HW3.out]
              have hq2 := HQ2.out w3 HBW3.out
              have bf2 : w3.frozen? ⟨B, 2, none⟩ = false := frozen_of HFB3.out.2.2.1
              have bc2 := HFB3.out.2.2.1.cells.2.2.1
              have HX4 := Lib.hid (li_fix (x' := txS k s2) (HLI3.out.on (below_drew w3)) (cell_of (o := 0) HFB3.out.1 rfl) (by obtain ⟨cc, k1, k2⟩ := HFB3.out.2.1; exact cell_of k1 k2) rfl rfl rfl (HHD.out.turn s2))
              have bc4 : (w3.drew.setCell ⟨B, 2, none⟩ (.string s2)).cell? ⟨B, 4, none⟩ = some (.int .i64 0) := by
                rw [World.cell?_setCell_other _ _ _ _ (by simp)]; exact f4
              simp only [txS] at HX4
              go_wp2_with fail
              refine HX4.out.mono ?_
              rintro e w4 ⟨rfl, hl4, hf4⟩
              have HE : Hid (Li w4 w.heap.size hb (ins (txS k s2) r) ∧ HD i (updF cur k (s2 :: t2)) (ins (txS k s2) r) ∧ RowV w4 R i (updF f' k (.slice (some ⟨b', o' + 1, none⟩) (t2.length + 1) (c' - 1))) ∧ (∀ q, q < i → TxS w (updF f' k (.slice (some ⟨b', o' + 1, none⟩) (t2.length + 1) (c' - 1)) q) (updF cur k (s2 :: t2) q)) ∧ OwnT w4 B0 v2 (dn ++ [s]) ∧ (∀ o, Mg i (updF cur k (s2 :: t2)) o → Mg i cur0 (dn ++ [s] ++ o)) ∧ (dn ++ [s]).length + tot (updF cur k (s2 :: t2)) i = tot cur0 i ∧ Below w.heap.size w w4 ∧ B0 ≤ w4.heap.size) := by
                refine ⟨hl4, HHD.out.next hk, (HROW3.out.on (below_drew w3)).fr hf4 hRhb, HTX3.out, ?_, fun o ho => ?_, ?_, ?_, ?_⟩
                · refine ⟨HOWN3.out.1, ?_⟩
                  rcases HOWN3.out.2 with h1 | ⟨g2, cap2, cur2, e, h1, h2⟩
                  · exact .inl h1
                  · exact .inr ⟨g2, cap2, cur2, e, h1, hf4.keep (((below_drew w3).block _ (blk_lt h2.1)).trans h2.1) (by omega) (by decide) (by decide), h2.2⟩
                · have := HH.out.2.2.2.2.2.1 (s :: o) (Mg.step hk ecur HA.out ho)
                  simpa using this
                · rw [List.length_append, List.length_singleton]
                  have := HTOT3.out
                  omega
                · exact (below_step HBW3.out (below_drew w3)).trans (hf4.below (below_step HBW3.out (below_drew w3)).size)
                · have h1 := hf4.size; have h2 := HBS2.out; have h3 := (below_drew w3).size; omega
              have hg4 := HTOT3.out
              clear hl4 hf4 HX4
              go_wp2_with fail
              go_roundg (tot (updF cur k (s2 :: t2)) i + 1)
              case measure => omega
              case rel => exact ⟨updF cur k (s2 :: t2), ins (txS k s2) r, dn ++ [s], updF f' k (.slice (some ⟨b', o' + 1, none⟩) (t2.length + 1) (c' - 1)), Nat.le_refl _, HE.out⟩
end Go.Proofs.Ytnkdhipeklphaaa
