/- The walks of a queue's Drop and Move of a number that is there. -/
import Derived.Test.YtnkdhipeklphaaaDoorHQ2
namespace Go.Proofs.YtnkdhipeklphaaaDoor
open Go.RowKit Go.Sort Go.Maps

set_option maxHeartbeats 1000000 in
theorem drop_yes {w : World} {N qb : Nat} {p q : List Sl} {x : Sl} {t : Nat} {mv v : Value} {n : Nat} {b : Nat → Nat} {S : Nat → Sl} (h : Qu w N qb (p ++ x :: q) t mv v (n + 1) b S) :
    Calls Tryd.prog 10 #[.pointer (some ⟨qb, 0, none⟩), .int .i64 x.id] w fun e w' => e = .returned .nilIface ∧ (∃ mv' v' b' S', Qu w' N qb (p ++ q) t mv' v' n b' S') ∧ FQ N w w' := by
  obtain ⟨m, D, rfl, hNm, hown, hD1, hD2, hmq⟩ := h.mapped (by omega)
  obtain ⟨i, hi, hx⟩ := h.at
  have hid := (h.wf x (by simp)).2.2.1
  have HF := Lib.hid (find_yes h x.id hid hi (by rw [hx]))
  have HR := Lib.hid (kremove_ (h.ln.on (below_drew w)) i hi h.hp)
  unfold ifL pt at HR
  have c4 := (h.ln.slot i hi).2.cells.2.2.2.2
  have HDR := Lib.hid h.ln.hdr
  have HM := Lib.hid hown
  have HD := Lib.hid (And.intro hD1 hD2)
  have hkey := key_ x.id hid
  have HQ := Lib.hid h
  clear h hown hD1 hD2
  generalize hbi : b i = bi at *
  go_enter Tryd.func10, Tryd.ntmps10
  go_wp2_with fail
  refine HF.out.mono ?_
  rintro e w1 ⟨rfl, rfl⟩
  go_wp2_with fail
  go_region_with (go_at_call 25; refine HR.out.mono ?_; rintro e w2 ⟨rfl, v', b', L2, H2, P2, hbn, S2, F2⟩)
  replace F2 : Fr N qb w1 w2 := (below_fr (below_drew w1) N qb).trans F2
  have M2 : Hid (w2.ownsMap Tryd.prog 3 ptE m t D) := by
    obtain ⟨es, cl, k1, k2⟩ := HM.out
    exact ⟨es, cl, (F2.map k1 hmq).trans k1, k2⟩
  obtain ⟨s0, _⟩ := S2.cells
  rw [hx] at s0
  have cm : w2.cell? ⟨qb, 1, none⟩ = some (.map (some m)) := cell_of L2.hdr rfl
  have HE := Lib.hid (And.intro L2 (And.intro H2 (And.intro P2 (And.intro hbn (And.intro S2 F2)))))
  clear L2 H2 P2 S2 F2 HR HM c4
  obtain ⟨w3, hrun, hown3, hturn3⟩ := (M2.out.drew).drop (t := 52) keyed Tryd.underlying52 hkey 0
  have k3 := turned_keep hturn3
  have hQ3 : Qu w3 N qb (p ++ q) t (.map (some m)) v' n b' S := qu_cut (i := i) HQ.out hi (by rw [hbi]; exact hx) hNm HD.out.1 HD.out.2 (ln_keep (HE.out.1.on (below_drew w2)) k3) HE.out.2.1 HE.out.2.2.1 (by rw [hbi]; exact HE.out.2.2.2.1) (by rw [hbi]; exact (k3 _ _ _ _ (HE.out.2.2.2.2.1.on (below_drew w2))).trans (HE.out.2.2.2.2.1.on (below_drew w2))) hown3
  have HF3 : Hid (FQ N w1 w3) := (((HE.out.2.2.2.2.2.fq HDR.out)).trans (below_fq (below_drew w2) N)).trans (turned_fq hturn3 hNm)
  have HQ3 := Lib.hid hQ3
  clear k3 hown3 hturn3 M2 hQ3
  go_wp2_with fail
  go_region
  go_wp2_with fail
  go_ret
  exact ⟨rfl, ⟨_, _, _, _, HQ3.out⟩, HF3.out⟩
theorem hp_mid2 {α : Type} {le : α → α → Prop} {a b : Nat → α} {n i : Nat} (h : Tot le) (hp : Hp le a n) (hb : ∀ k, k < n → k ≠ i → b k = a k) (hi : i < n) : Mid le b n i := by
  refine ⟨?_, ?_⟩
  · intro k hk hn h1 h2
    have := par_lt hk
    rw [hb k hn h1, hb _ (by omega) h2]
    exact hp k hk hn
  · intro k hk hn h1 hi0
    have := par_lt hk
    have hpi := par_lt hi0
    rw [hb k hn (by omega), hb (par i) (by omega) (by omega)]
    have e := hp k hk hn
    rw [h1] at e
    exact h.trans _ _ _ (hp i hi0 hi) e
/-- What a queue is behind a move. -/
theorem qu_move {w w4 : World} {N qb : Nat} {p q : List Sl} {x x' : Sl} {t : Nat} {mv v v' : Value} {n i : Nat} {b b' : Nat → Nat} {S : Nat → Sl} (h : Qu w N qb (p ++ x :: q) t mv v n b S) (hi : i < n) (hx : S (b i) = x) (rank : Int) (hrk : inI rank) (ht : t + 1 ≤ 1000000)
    (hxi : x'.id = x.id) (hxk : x'.rank = rank) (hxt : x'.text = ⟨#[]⟩) (hxu : x'.turn = (t : Int) + 1)
    (L4 : Ln w4 N qb 54 [mv, .int .i64 ((t + 1 : Nat) : Int)] v' n b' (upd S (b i) x')) (H4 : Hp kle (fun k => upd S (b i) x' (b' k)) n) (P4 : Pm n b b') (M4 : ∀ m es cl, w.heap[m]? = some (.map es cl) → N ≤ m → w4.heap[m]? = w.heap[m]?) :
    Qu w4 N qb (insL (p ++ q) x') (t + 1) mv v' n b' (upd S (b i) x') := by
  have hsub : ∀ y ∈ p ++ q, y ∈ p ++ x :: q := fun y hy => by rcases List.mem_append.1 hy with hy | hy <;> simp [hy]
  have hsm : ∀ y ∈ p ++ q, y.text = x'.text ∧ y.turn < x'.turn := fun y hy => by
    have := h.wf y (hsub y hy)
    rw [hxt, hxu]
    exact ⟨this.1, by omega⟩
  have hxo := (srt_out h.srt).2
  have hno : ∀ y ∈ p ++ q, y.id ≠ x.id := fun y hy e => hxo ((h.ids y (hsub y hy) x (by simp) e) ▸ hy)
  have hx' : x' ∉ p ++ q := fun hm => hno x' hm hxi
  have hSo : ∀ k, k < n → k ≠ i → upd S (b i) x' (b k) = S (b k) := fun k hk hki => upd_old fun e => hki (h.ln.inj k i hk hi e)
  have hcont : Cont (fun k => upd S (b i) x' (b k)) n (insL (p ++ q) x') := by
    have hc : Cont (fun k => if k < n then upd S (b i) x' (b k) else S (b k)) n (insL (p ++ q) x') :=
      cont_set (a := fun k => S (b k)) (i := i) (x := x) (x' := x') h.cont h.srt hi hx hx' (by show (if i < n then _ else _) = x'; rw [if_pos hi, upd_at]) (fun k hki => by
        show (if k < n then _ else _) = S (b k)
        split
        · rename_i hk; exact hSo k hk hki
        · rfl) (fun y => mem_insL hsm) (len_insL hsm)
    obtain ⟨h1, h2, h3, h4⟩ := hc
    refine ⟨fun k hk => ?_, fun y hy => ?_, fun j k hj hk e => h3 j k hj hk ?_, h4⟩
    · simpa only [if_pos hk] using h1 k hk
    · obtain ⟨k, hk, e⟩ := h2 y hy
      exact ⟨k, hk, by simpa only [if_pos hk] using e⟩
    · show (if j < n then _ else _) = (if k < n then _ else _); rw [if_pos hj, if_pos hk]; exact e
  refine ⟨L4, H4, P4.cont L4.inj hcont, srt_insL hsm (srt_out h.srt).1, ?_, ?_, ?_, ht⟩
  · refine MapQ.pm ?_ P4
    have hids : ∀ k, k < n → (upd S (b i) x' (b k)).id = (S (b k)).id := fun k hk => by
      by_cases e : k = i
      · rw [e, upd_at, hxi, hx]
      · rw [hSo k hk e]
    rcases (h.map.on M4) with h1 | ⟨m, D, e, hNm, hm, h1, h2⟩
    · exact .inl h1
    · exact .inr ⟨m, D, e, hNm, hm.mono (by omega), fun k hk => by rw [hids k hk]; exact h1 k hk, fun id hid hh => by
        obtain ⟨k, hk, e⟩ := h2 id hid hh
        exact ⟨k, hk, by rw [hids k hk]; exact e⟩⟩
  · intro y hy
    rcases (mem_insL hsm).1 hy with e | hy
    · subst e; exact ⟨hxt, by omega, by rw [hxi]; exact (h.wf x (by simp)).2.2.1, by rw [hxk]; exact hrk⟩
    · have := h.wf y (hsub y hy)
      exact ⟨this.1, by omega, this.2.2⟩
  · intro y hy z hz e
    rcases (mem_insL hsm).1 hy with e1 | hy
    · rcases (mem_insL hsm).1 hz with e2 | hz
      · rw [e1, e2]
      · rw [e1, hxi] at e
        exact absurd e.symm (hno z hz)
    · rcases (mem_insL hsm).1 hz with e2 | hz
      · rw [e2, hxi] at e
        exact absurd e (hno y hy)
      · exact h.ids y (hsub y hy) z (hsub z hz) e
set_option maxHeartbeats 1000000 in
theorem move_yes {w : World} {N qb : Nat} {p q : List Sl} {x : Sl} {t : Nat} {mv v : Value} {n : Nat} {b : Nat → Nat} {S : Nat → Sl} (h : Qu w N qb (p ++ x :: q) t mv v n b S) (rank : Int) (hrk : inI rank) (ht : t + 1 ≤ 1000000) :
    Calls Tryd.prog 8 #[.pointer (some ⟨qb, 0, none⟩), .int .i64 x.id, .int .i64 rank] w fun e w' => e = .returned .nilIface ∧ (∃ mv' v' b' S', Qu w' N qb (insL (p ++ q) ⟨x.id, rank, ⟨#[]⟩, (t : Int) + 1⟩) (t + 1) mv' v' n b' S') ∧ FQ N w w' := by
  obtain ⟨i, hi, hx⟩ := h.at
  have hid := (h.wf x (by simp)).2.2.1
  have HF := Lib.hid (find_yes h x.id hid hi (by rw [hx]))
  obtain ⟨_, _, c2, hf⟩ := h.cells
  have f2 := hf 2
  have HT := Lib.hid (turn_ qb t w c2 f2 (by omega) (by omega))
  obtain ⟨s0, s1, s2, s3, s4⟩ := (h.ln.slot i hi).2.cells
  have sf : ∀ o, w.frozen? ⟨b i, o, none⟩ = false := fun o => frozen_of (h.ln.slot i hi).2
  have HQ := Lib.hid h
  clear h hf
  generalize hbi : b i = bi at *
  go_enter Tryd.func8, Tryd.ntmps8
  go_wp2_with fail
  refine HF.out.mono ?_
  rintro e w1 ⟨rfl, rfl⟩
  go_wp2_with fail
  refine HT.out.mono ?_
  rintro e w2 ⟨rfl, hw2⟩
  obtain ⟨X, hX⟩ : ∃ X : Sl, X = ⟨x.id, rank, ⟨#[]⟩, (t : Int) + 1⟩ := ⟨_, rfl⟩
  have hbq : bi ≠ qb := fun e => by
    have := (HQ.out.ln.slot i hi).2
    rw [hbi, e, SlotAt, HQ.out.ln.hdr] at this; simp at this
  have L2 : Ln w2 N qb 54 [mv, .int .i64 ((t + 1 : Nat) : Int)] v n b S := by rw [hw2]; exact ln_set HQ.out.ln 1 _
  have sl2 : SlotAt w2 bi (S bi) i := by have := (L2.slot i hi).2; rw [hbi] at this; exact this
  have g1 := heap_set (o := 1) (.int .i64 rank) sl2
  have g2 := heap_set (o := 3) (.int .i64 ((t : Int) + 1)) g1
  obtain ⟨w3, hw3⟩ : ∃ w3, w3 = (w2.setCell ⟨bi, 1, none⟩ (.int .i64 rank)).setCell ⟨bi, 3, none⟩ (.int .i64 ((t : Int) + 1)) := ⟨_, rfl⟩
  have hxt := (HQ.out.wf x (by simp)).1
  have sl3 : SlotAt w3 bi X i := by
    rw [hw3, hX]
    refine g2.trans ?_
    rw [hx]
    unfold slotC
    rw [hxt]
    rfl
  have hold : ∀ k, k < n → k ≠ i → upd S bi X (b k) = S (b k) := fun k hk hki => upd_old fun e => hki (L2.inj k i hk hi (by rw [hbi]; exact e))
  have L3 : Ln w3 N qb 54 [mv, .int .i64 ((t + 1 : Nat) : Int)] v n b (upd S bi X) := by
    obtain ⟨g, cap, c, hv, hNg, hg, hnc, hcm, hsz, hc, hgh, hgb, hhb⟩ := L2.some (by omega)
    have hfar : ∀ k : Nat, k ≠ bi → w3.heap[k]? = w2.heap[k]? := fun k hk => by rw [hw3, heap_far _ hk, heap_far _ hk]
    refine ⟨(hfar qb (Ne.symm hbq)).trans L2.hdr, L2.tyS, L2.tyP, L2.low, .inr ⟨g, cap, c, hv, hNg, (hfar g (by have := hgb i hi; rw [hbi] at this; exact this)).trans hg, hnc, hcm, hsz, hc⟩, fun k hk => ⟨(L2.slot k hk).1, ?_⟩, L2.lim⟩
    by_cases e : k = i
    · rw [e, hbi, upd_at]; exact sl3
    · have hkb : b k ≠ bi := fun e' => e (L2.inj k i hk hi (by rw [hbi]; exact e'))
      rw [hold k hk e]
      exact (hfar (b k) hkb).trans (L2.slot k hk).2
  have F3 : Fr N qb w1 w3 := by
    have f1 : Fr N qb w1 w2 := by rw [hw2]; exact Fr.set _ HQ.out.ln.hdr HQ.out.ln.low (.inr (.inr rfl))
    have hNb : N ≤ bi := by have := (L2.slot i hi).1; rw [hbi] at this; exact this
    rw [hw3]
    exact (f1.trans (Fr.set _ sl2 hNb (.inl rfl))).trans (Fr.set _ g1 hNb (.inl rfl))
  have HFx := Lib.hid (kfix_ (L3.on (below_drew w3)) i hi (hp_mid2 tot_kle HQ.out.hp hold hi))
  unfold ifL at HFx
  obtain ⟨_, a1, _, a3, a4⟩ := sl2.cells
  have af1 : w2.frozen? ⟨bi, 1, none⟩ = false := frozen_of sl2
  have af3 : w2.frozen? ⟨bi, 3, none⟩ = false := frozen_of sl2
  have a3' : (w2.setCell ⟨bi, 1, none⟩ (.int .i64 rank)).cell? ⟨bi, 3, none⟩ = some (.int .i64 (S bi).turn) := cell_of g1 rfl
  have p3 := sl3.cells.2.2.2.2
  have HW3 := Lib.hid hw3
  have HX := Lib.hid hX
  have HF3 := Lib.hid F3
  clear L2 sl2 g1 g2 hw3 sl3 hold L3 F3 hw2 hX HT s0 s1 s2 s3 s4 sf c2 f2
  go_wp2_with fail
  rw [← HW3.out]
  go_region_with (go_at_call 24; refine HFx.out.mono ?_; rintro e w4 ⟨rfl, b', L4, H4, P4, F4⟩)
  have hF4 : Fr N qb w1 w4 := (HF3.out.trans (below_fr (below_drew w3) N qb)).trans F4
  have hQ4 : Qu w4 N qb (insL (p ++ q) X) (t + 1) mv v n b' (upd S (b i) X) := qu_move HQ.out hi (by rw [hbi]; exact hx) rank hrk ht (by rw [HX.out]) (by rw [HX.out]) (by rw [HX.out]) (by rw [HX.out]) (by rw [hbi]; exact L4) (by rw [hbi]; exact H4) P4 (fun m es cl hm hNm => hF4.map hm (fun e => by rw [e, HQ.out.ln.hdr] at hm; cases hm))
  rw [HX.out] at hQ4
  have HE : Hid ((∃ mv' v' b' S', Qu w4 N qb (insL (p ++ q) ⟨x.id, rank, ⟨#[]⟩, (t : Int) + 1⟩) (t + 1) mv' v' n b' S') ∧ FQ N w1 w4) := ⟨⟨_, _, _, _, hQ4⟩, hF4.fq HQ.out.ln.hdr⟩
  clear L4 H4 P4 F4 hF4 hQ4 HFx
  go_wp2_with fail
  go_ret
  exact ⟨rfl, HE.out⟩
end Go.Proofs.YtnkdhipeklphaaaDoor
