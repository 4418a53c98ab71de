/- The walks of unseen, and of a copy of a chain. -/
import Derived.Test.YtagamkahfiackaaGreatDoorVnCh2
namespace Go.Proofs.YtagamkahfiackaaGreatDoor
open Go.RowKit Go.Sort

theorem un_as {L : List MV} (h : AscC (pvs L)) (t : Int) : unC (pvs L) t = match asL L t with
    | none => 0
    | some x => if upC (pvs L) t = L.length ∧ x.v.gn = true then upC (pvs L) t else upC (pvs L) t - 1 := by
  unfold unC
  rw [asL_as h, pvs_len]
  cases asL L t <;> rfl
set_option maxRecDepth 100000 in
set_option maxHeartbeats 1000000 in
theorem unseen_ {w : World} {v : Vl} {L : List MV} (hn : v.n = L.length) (hv : VerIn w v.a L) (hl : L.length ≤ 1000000) (ha : AscC (pvs L)) (t : Int) :
    Calls Tryz.prog 33 #[.slice v.a v.n v.c, .int .i64 t] w fun e w' => e = .returned (.int .i64 (unC (pvs L) t)) ∧ Below w.heap.size w w' := by
  have HU := Lib.hid (upTo_ (v := v) hn hv hl ha t)
  have hul : upC (pvs L) t ≤ L.length := by rw [← pvs_len]; exact up_le _ _
  have hun := un_as ha t
  obtain ⟨o, ho⟩ : ∃ o, o = asL L t := ⟨_, rfl⟩
  rw [← ho] at hun
  unfold asL at ho
  rw [hun]
  clear hun
  generalize upC (pvs L) t = u at *
  obtain ⟨a, n, c⟩ := v
  simp only at hn hv HU
  rw [← hn] at hul hl ⊢
  rcases Nat.eq_zero_or_pos u with rfl | hp
  · rw [if_pos rfl] at ho
    subst ho
    clear hn hv hul hl
    go_enter Tryz.func33, Tryz.ntmps33
    go_wp2_with (first | (go_at_call 42; refine HU.out.mono ?_; rintro e w' ⟨rfl, hb⟩; have HB2 := Lib.hid hb; clear hb) | fail)
    go_ret
    exact ⟨rfl, HB2.out⟩
  · obtain ⟨j, rfl⟩ : ∃ j, u = j + 1 := ⟨u - 1, by omega⟩
    rw [if_neg (by omega)] at ho
    obtain ⟨x, hx⟩ := getElem?_of_lt (show j < L.length by omega)
    rw [show j + 1 - 1 = j by omega, hx] at ho
    subst ho
    obtain ⟨⟨cm, tx, gn⟩, ⟨ra, rn, rc⟩⟩ := x
    obtain ⟨g, rfl, hg, _, _, c3⟩ := hv j _ hx
    simp only at c3
    have HC : Hid (∀ V, Below w.heap.size w V → V.cell? ⟨g, j * 3 + 2, none⟩ = some (.bool gn)) := fun V hV => (hV.cell (p := ⟨g, j * 3 + 2, none⟩) hg).trans c3
    have HU' : Hid (Calls Tryz.prog 42 #[.slice (some ⟨g, 0, none⟩) n c, .int .i64 t] w fun e w' => e = .returned (.int .i64 ((j : Int) + 1)) ∧ Below w.heap.size w w') := by
      have := HU.out
      rw [show (((j + 1 : Nat) : Int)) = (j : Int) + 1 by omega] at this
      exact this
    have hjn : (j : Int) < n := by omega
    have hw := wraps_i64 (j : Int) (by omega) (by omega)
    have h0 : ¬ ((j : Int) + 1 = 0) := by omega
    simp only
    rw [show j + 1 - 1 = j by omega]
    clear HU hn hv hx c3 hg
    by_cases hjl : j + 1 = n
    · have he : (((j : Int) + 1) == (n : Int)) = true := by simp; omega
      cases gn with
      | true =>
        rw [if_pos ⟨hjl, rfl⟩, show (((j + 1 : Nat) : Int)) = (j : Int) + 1 by omega]
        clear hjl
        go_enter Tryz.func33, Tryz.ntmps33
        go_wp2_with (first | (go_at_call 42; refine HU'.out.mono ?_; rintro e w' ⟨rfl, hb⟩; have HB2 := Lib.hid hb; have d2 := HC.out _ hb; clear hb) | fail)
        go_ret
        exact ⟨rfl, HB2.out⟩
      | false =>
        rw [if_neg (by simp)]
        clear hjl
        go_enter Tryz.func33, Tryz.ntmps33
        go_wp2_with (first | (go_at_call 42; refine HU'.out.mono ?_; rintro e w' ⟨rfl, hb⟩; have HB2 := Lib.hid hb; have d2 := HC.out _ hb; clear hb) | fail)
        go_ret
        exact ⟨rfl, HB2.out⟩
    · have he : (((j : Int) + 1) == (n : Int)) = false := by simp; omega
      rw [if_neg (fun h => hjl h.1)]
      clear hjl
      go_enter Tryz.func33, Tryz.ntmps33
      go_wp2_with (first | (go_at_call 42; refine HU'.out.mono ?_; rintro e w' ⟨rfl, hb⟩; have HB2 := Lib.hid hb; have d2 := HC.out _ hb; clear hb) | fail)
      go_ret
      exact ⟨rfl, HB2.out⟩
/-- A copy of a piece of a chain. -/
def CloToV (w : World) (N : List MV) (e : Ending) (w' : World) : Prop :=
  ∃ g c, w.heap.size ≤ g ∧ e = .returned (.slice (some ⟨g, 0, none⟩) N.length c) ∧ RowV w' (.slice (some ⟨g, 0, none⟩) N.length c) N ∧ Below w.heap.size w w'
set_option maxRecDepth 100000 in
set_option maxHeartbeats 1000000 in
theorem cloneV_ {w : World} (b off n c : Nat) (N : List MV) (hnN : n = N.length) (hn0 : 0 < n) (hn : n ≤ 1000000) (hc : ∀ j u, (cV N)[j]? = some u → w.cell? ⟨b, off + j, none⟩ = some u) :
    Calls Tryz.prog 36 #[.slice (some ⟨b, off, none⟩) n c] w (CloToV w N) := by
  obtain ⟨i0, hi0, hz0, hz1, hz2⟩ := info_parts infoVer
  have q22 : ∀ (w : World) (a : Option Addr) (n c n' c' : Nat), (binOp .eql 52 (.slice a n c) (.slice none n' c')).run Tryz.prog w = .ok (.bool a.isNone) w := fun w a n c n' c' => Lib.run_eql_slice_nil w _ _ a n c n' c' Tryz.underlying52
  have hl := cV_len N
  rw [← hnN] at hl
  have h1 := cV_one N
  have HNn := Lib.hid hnN
  generalize hcv : cV N = news at *
  have HCV := Lib.hid hcv
  have A : Aside (∀ j u, news[j]? = some u → w.cell? ⟨b, off + j, none⟩ = some u) := hc
  clear hc hnN hcv
  go_enter Tryz.func36, Tryz.ntmps36
  go_wp2_with (at_builtin; refine wpList_append_own _ rfl _ _ 52 rfl w.heap.size 90 i0 _ 3 40 Tryz.underlying52 hi0 hz0 hz1 hz2 rfl (by decide) _ _ _ rfl (World.ownsRow_made w #[] 0 (Nat.le_refl _) (Nat.zero_le _) (by simp)) ⟨b, off, none⟩ n c news rfl ?qc1 ?qc2 ?qc3 ?qc4 ?qc5 ?qc6 ?_)
  case qc1 => exact hl
  case qc2 =>
    intro j u hj
    rw [Addr.add_lit]
    exact Lib.cell?_alloc_some _ (A.out j u hj)
  case qc3 => exact h1
  case qc4 => rw [Nat.zero_add]; unfold maxLen; omega
  case qc5 => rw [Nat.zero_add]; omega
  case qc6 => simp
  intro v' w1 hown hgrow hnil
  have hb : Below w.heap.size w w1 := ((Below.refl _ w).alloc (Nat.le_refl _) _).grown hgrow (by simp) (by intro k hk; simp [Value.ownBlock] at hk; omega)
  obtain ⟨g, cap, cur, rfl, h2⟩ : ∃ g cap cur, v' = .slice (some ⟨g, 0, none⟩) n cap ∧ w.heap.size ≤ g ∧ w1.heap[g]? = some (.cells cur 90 (0, 0)) ∧ n ≤ cap ∧ cap ≤ maxLen ∧ cur.size = cap * 3 ∧ cur.toList.take (n * 3) = news := by
    rcases hown.2 with ⟨_, e⟩ | ⟨g, cap, cur, e1, h1, h2⟩
    · omega
    · exact ⟨g, cap, cur, e1, h1, h2⟩
  obtain ⟨h3, h4, h5, h6, h7, h8⟩ := h2
  have HZ : Hid (CloToV w N (.returned (.slice (some ⟨g, 0, none⟩) n cap)) w1) := by
    refine ⟨g, cap, h3, by rw [HNn.out], ?_, hb⟩
    unfold RowV
    rw [← HNn.out]
    exact row_mk h4 h5 h6 h7 (by rw [HCV.out]; exact h8)
  clear hb hown hgrow hnil h3 h4 h5 h6 h7 h8 h1 hl
  go_wp2
  go_ret
  exact HZ.out
end Go.Proofs.YtagamkahfiackaaGreatDoor
