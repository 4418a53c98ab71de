/- What a chain with one version more leaves, beside the tree; the tree behind it. -/
import Derived.Test.YtagamkahfiackaaGreatDoorVnSt
namespace Go.Proofs.YtagamkahfiackaaGreatDoor
open Go.RowKit Go.Sort

/-- Cells of another make stay. -/
def Odd (w w' : World) : Prop := ∀ (b : Nat) (c : Array Value) (t : TypeId) (z : Nat × Nat), w.heap[b]? = some (.cells c t z) → z ≠ (0, 0) → w'.heap[b]? = some (.cells c t z)
/-- Blocks of other kinds than a store's stay. -/
def AlienV (w w' : World) : Prop := (∀ (b : Nat) (c : Array Value) (t : TypeId), w.heap[b]? = some (.cells c t (0, 0)) → t ≠ 103 → t ≠ 99 → t ≠ 82 → t ≠ 84 → t ≠ 90 → w'.heap[b]? = some (.cells c t (0, 0))) ∧ Odd w w'
theorem AlienV.trans {a b c : World} (h : AlienV a b) (k : AlienV b c) : AlienV a c := ⟨fun q d t hq h1 h2 h3 h4 h5 => k.1 q d t (h.1 q d t hq h1 h2 h3 h4 h5) h1 h2 h3 h4 h5, fun q d t z hq hz => k.2 q d t z (h.2 q d t z hq hz) hz⟩
theorem AlienV.below {w w' : World} (h : Below w.heap.size w w') : AlienV w w' := ⟨fun b _ _ hb _ _ _ _ _ => (h.block b (blk_lt hb)).trans hb, fun b _ _ _ hb _ => (h.block b (blk_lt hb)).trans hb⟩
theorem alienV_of {w w' : World} (h : Alien w w') (h2 : Odd w w') : AlienV w w' := ⟨fun b c t hb h1 h2 h3 h4 _ => h b c t hb h1 h2 h3 h4, h2⟩
theorem odd_ne {w : World} {b k : Nat} {c c' : Array Value} {t t' : TypeId} {z : Nat × Nat} (hb : w.heap[b]? = some (.cells c t z)) (hz : z ≠ (0, 0)) (hk : w.heap[k]? = some (.cells c' t' (0, 0))) : b ≠ k := by
  rintro rfl
  rw [hb] at hk
  cases hk
  exact hz rfl
theorem KeptT.odd {M M' : Nat → Option Nd} {F F' : Nat → Prop} {p : Nat} {w w' : World} {l : List It} {G : Nat → Prop} (hk : KeptT M M' F F' p w w') (hs : Store w M) (ht : TreeAt w M p l G) : Odd w w' := fun b c t z hb hz => by
  refine (hk.stays hb ?_ fun e => ?_).1
  · rintro ⟨q, n, hq, rfl | e | e⟩
    · exact odd_ne hb hz (hs.blk _ _ hq) rfl
    · obtain ⟨c2, k2⟩ := row_block (hs.its q n hq) e
      exact odd_ne hb hz k2 rfl
    · obtain ⟨c2, k2⟩ := row_block (hs.ks q n hq) e
      exact odd_ne hb hz k2 rfl
  · subst e
    rcases ht.root with ⟨_, _, e⟩ | ⟨_, _, _, _, e⟩
    · exact odd_ne hb hz e rfl
    · exact odd_ne hb hz e rfl
theorem alienV_grown {w w' : World} {v : Value} {L : List MV} (h : RowV w v L) (hg : w.grownBy w' v.ownBlock) : AlienV w w' := by
  refine ⟨fun b c t hb _ _ _ _ h5 => ?_, fun b c t z hb hz => ?_⟩
  · refine (hg.block b (blk_lt hb) fun e => ?_).trans hb
    obtain ⟨cur, hc⟩ := row_block h e.symm
    exact kind_ne hb hc h5 rfl
  · refine (hg.block b (blk_lt hb) fun e => ?_).trans hb
    obtain ⟨cur, hc⟩ := row_block h e.symm
    exact odd_ne hb hz hc rfl
theorem Store.rowV {w w' : World} {M : Nat → Option Nd} {v : Value} {L : List MV} (h : Store w M) (hr : RowV w v L) (hg : w.grownBy w' v.ownBlock) : Store w' M := by
  refine h.keep fun k hk => hg.block k (h.lt hk) fun e => ?_
  obtain ⟨cur, hc⟩ := row_block hr e.symm
  obtain ⟨q, n, hq, rfl | e1 | e1⟩ := hk
  · exact kind_ne (h.blk _ _ hq) hc (by decide) rfl
  · obtain ⟨c2, h2⟩ := row_block (h.its q n hq) e1
    exact kind_ne h2 hc (by decide) rfl
  · obtain ⟨c2, h2⟩ := row_block (h.ks q n hq) e1
    exact kind_ne h2 hc (by decide) rfl
theorem TreeAt.pblk {w : World} {M : Nat → Option Nd} {p : Nat} {l : List It} {F : Nat → Prop} (h : TreeAt w M p l F) : ∃ c, w.heap[p]? = some (.cells c 84 (0, 0)) := by
  rcases h.root with ⟨_, _, e⟩ | ⟨_, _, _, _, e⟩
  · exact ⟨_, e⟩
  · exact ⟨_, e⟩
theorem TreeAt.keep {w w' : World} {M : Nat → Option Nd} {p : Nat} {l : List It} {F : Nat → Prop} (h : TreeAt w M p l F) (hp : w'.heap[p]? = w.heap[p]?) : TreeAt w' M p l F :=
  ⟨h.srt, h.own, h.root.imp (fun ⟨a, b, c⟩ => ⟨a, b, hp.trans c⟩) (fun ⟨a, b, c, d, e⟩ => ⟨a, b, c, d, hp.trans e⟩)⟩
def rdU (rd : Nat → List MV) (g : Nat) (L : List MV) : Nat → List MV := fun b => if b = g then L else rd b
/-- Behind a chain's turn, ahead of the tree's. -/
structure VnH (W X V : World) (ps p : Nat) (M : Nat → Option Nd) (F : Nat → Prop) (l l' : List It) (rd : Nat → List MV) (m : List Ct) : Prop where
  wk : Works W V M
  tr : TreeAt V M p l F
  lp : W.heap.size ≤ p
  ls : W.heap.size ≤ ps
  bs : V.heap[ps]? = some (.cells #[.pointer (some ⟨p, 0, none⟩)] 54 (0, 0))
  ch : Chs V W.heap.size rd l'
  md : mdl rd l' = m
  al : AlienV X V
theorem chain_turn {W X V : World} {ps p : Nat} {M : Nat → Option Nd} {F : Nat → Prop} {l : List It} {rd : Nat → List MV} (h : VnD W X ps p M F l rd) (k : ByteArray) {v : Vl} (hv : v = (get k l).getD vz) {L N : List MV} (hL : ChAt X W.heap.size v L) {g cap : Nat}
    (hrow : RowV V (.slice (some ⟨g, 0, none⟩) N.length cap) N) (hg : X.grownBy V (Value.slice v.a v.n v.c).ownBlock) (hat : (Value.slice v.a v.n v.c).ownBlock = some g ∨ X.heap.size ≤ g)
    (hN : ∀ y ∈ N, RowAt X y.r y.v.tx ∧ (∀ b, y.r.a = some ⟨b, 0, none⟩ → W.heap.size ≤ b)) :
    VnH W X V ps p M F l (ins k ⟨some ⟨g, 0, none⟩, N.length, cap⟩ l) (rdU rd g N) (ins k (pvs N) (mdl rd l)) := by
  have hal : AlienV X V := alienV_grown hL.row hg
  have hWX := h.wk.below.size
  have hBl : Below W.heap.size W V := by
    refine ⟨hg.os.trans h.wk.below.os, hg.tape.trans h.wk.below.tape, hg.output.trans h.wk.below.output, Nat.le_trans hWX hg.size, fun b hb => (hg.block b (by omega) fun e => ?_).trans (h.wk.below.block b hb)⟩
    cases ha : v.a with
    | none => rw [ha] at e; cases e
    | some ad =>
      obtain ⟨a, c, e2, _, h3, _⟩ := row_shape hL.row
      simp only [Value.slice.injEq] at e2
      obtain ⟨g', e'⟩ := h3 ad (by rw [← e2.1, ha])
      rw [ha, e'] at e
      simp only [Value.ownBlock, Option.some.injEq] at e
      have := hL.lo g' (by rw [ha, e'])
      omega
  have hglo : W.heap.size ≤ g := by
    rcases hat with e | e
    · cases ha : v.a with
      | none => rw [ha] at e; cases e
      | some ad =>
        obtain ⟨a, c, e2, _, h3, _⟩ := row_shape hL.row
        simp only [Value.slice.injEq] at e2
        obtain ⟨g', e'⟩ := h3 ad (by rw [← e2.1, ha])
        rw [ha, e'] at e
        simp only [Value.ownBlock, Option.some.injEq] at e
        have := hL.lo g' (by rw [ha, e'])
        omega
    · omega
  obtain ⟨cp, hp⟩ := h.tr.pblk
  have hpk : V.heap[p]? = X.heap[p]? := hg.block p (blk_lt hp) fun e => by
    obtain ⟨cur, hc⟩ := row_block hL.row e.symm
    exact kind_ne hp hc (by decide) rfl
  have hbyte : ∀ (b : Nat) (cur : Array Value), X.heap[b]? = some (.cells cur 5 (0, 0)) → V.heap[b]? = X.heap[b]? := fun b cur hb => (hal.1 b cur _ hb (by decide) (by decide) (by decide) (by decide) (by decide)).trans hb.symm
  -- another key's chain lies apart
  have far : ∀ x ∈ l, (ltb x.1 k = true ∨ ltb k x.1 = true) → ∀ b, x.2.a = some ⟨b, 0, none⟩ → b ≠ g ∧ some b ≠ (Value.slice v.a v.n v.c).ownBlock := fun x hx hne b hb => by
    have hnk : x.1 ≠ k := fun e => by rw [e, ltb_irrefl] at hne; simp at hne
    have h2 : some b ≠ (Value.slice v.a v.n v.c).ownBlock := fun e => by
      cases hgk : get k l with
      | none => rw [hv, hgk] at e; cases e
      | some u =>
        have hvu : v = u := by rw [hv, hgk]; rfl
        obtain ⟨gu, eu, _⟩ := h.ch.at' (k, u) (get_mem hgk)
        simp only at eu
        rw [hvu, eu] at e
        simp only [Value.ownBlock, Option.some.injEq] at e
        exact hnk (h.ch.ap x hx (k, u) (get_mem hgk) (by rw [hb, eu, e]))
    refine ⟨fun e => ?_, h2⟩
    rcases hat with q | q
    · exact h2 (by rw [e]; exact q.symm)
    · obtain ⟨gx, ex, hc⟩ := h.ch.at' x hx
      rw [hb] at ex
      simp only [Option.some.injEq, Addr.mk.injEq] at ex
      obtain ⟨cur, hcb⟩ := hc.blk hb
      have := blk_lt hcb
      omega
  refine ⟨⟨h.wk.st.rowV hL.row hg, hBl, h.wk.mine⟩, h.tr.keep hpk, h.lp, h.ls, hal.1 _ _ _ h.bs (by decide) (by decide) (by decide) (by decide) (by decide), ⟨fun x hx => ?_, fun x hx y hy e => ?_⟩, ?_, hal⟩
  · rcases mem_ins.1 hx with rfl | ⟨hx, hne⟩
    · refine ⟨g, rfl, ?_⟩
      rw [show rdU rd g N g = N from if_pos rfl]
      refine ⟨hrow, fun g' hg' => ?_, fun y hy => ⟨(hN y hy).1.keep fun b hb => ?_, (hN y hy).2⟩⟩
      · simp only [Option.some.injEq, Addr.mk.injEq] at hg'
        omega
      · obtain ⟨cur, hc⟩ := (hN y hy).1.blk hb
        exact hbyte b cur hc
    · obtain ⟨gx, ex, hc⟩ := h.ch.at' x hx
      refine ⟨gx, ex, ?_⟩
      rw [show rdU rd g N gx = rd gx from if_neg (far x hx hne gx ex).1]
      exact hc.keep (fun b hb => by
        obtain ⟨cur, hcb⟩ := hc.blk hb
        exact hg.block b (blk_lt hcb) (far x hx hne b hb).2) hbyte
  · rcases mem_ins.1 hx with rfl | ⟨hx, hne⟩ <;> rcases mem_ins.1 hy with rfl | ⟨hy, hne'⟩
    · rfl
    · exact absurd rfl (far y hy hne' g e.symm).1
    · exact absurd rfl (far x hx hne g e).1
    · exact h.ch.ap x hx y hy e
  · unfold mdl
    rw [mapV_ins]
    have e1 : fV (rdU rd g N) ⟨some ⟨g, 0, none⟩, N.length, cap⟩ = pvs N := by simp [fV, ctV, rdU]
    rw [e1]
    refine ins_congr fun x hx hne => ?_
    obtain ⟨gx, ex, hc⟩ := h.ch.at' x hx
    unfold fV ctV
    rw [ex]
    simp only []
    rw [show rdU rd g N gx = rd gx from if_neg (far x hx hne gx ex).1]
/-- The tree behind it. -/
theorem VnH.put {W X V V' : World} {ps p : Nat} {M M' : Nat → Option Nd} {F F' : Nat → Prop} {l l' : List It} {rd : Nat → List MV} {m : List Ct} (h : VnH W X V ps p M F l l' rd m) (hm : OkM m) (hk : KeptT M M' F F' p V V') (ht : TreeAt V' M' p l' F') : VnAt W V' ps m ∧ AlienV X V' := by
  have ha := alienV_of (hk.alien h.wk.st h.tr) (hk.odd h.wk.st h.tr)
  have hbyte : ∀ (b : Nat) (cur : Array Value), V.heap[b]? = some (.cells cur 5 (0, 0)) → V'.heap[b]? = V.heap[b]? := fun b cur hb => (ha.1 b cur _ hb (by decide) (by decide) (by decide) (by decide) (by decide)).trans hb.symm
  have hver : ∀ (b : Nat) (cur : Array Value), V.heap[b]? = some (.cells cur 90 (0, 0)) → V'.heap[b]? = V.heap[b]? := fun b cur hb => ((hk.alien h.wk.st h.tr) b cur _ hb (by decide) (by decide) (by decide) (by decide)).trans hb.symm
  refine ⟨⟨⟨p, M', F', l', rd, ⟨h.wk.kept h.lp hk, ht, h.lp, h.ls, ?_, h.ch.keep hver hbyte⟩, h.md.symm⟩, hm⟩, h.al.trans ha⟩
  exact ha.1 _ _ _ h.bs (by decide) (by decide) (by decide) (by decide) (by decide)
end Go.Proofs.YtagamkahfiackaaGreatDoor
