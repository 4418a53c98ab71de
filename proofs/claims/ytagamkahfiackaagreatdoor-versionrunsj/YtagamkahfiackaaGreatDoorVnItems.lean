/- The law's items. -/
import Derived.Test.YtagamkahfiackaaGreatDoorVnRange2
import Derived.Test.YtagamkahfiackaaGreatDoorVnRRange2
namespace Go.Proofs.YtagamkahfiackaaGreatDoor
open Go.RowKit Go.Sort

attribute [local go_sem] Oper.semAt_some
theorem row_cells {w : World} {B e s n : Nat} {v : Value} {xs : List Value} (h : w.ownsRow B e s v n xs) {V : World} (hV : Below w.heap.size w V) {j : Nat} {u : Value} (hj : xs[j]? = some u) (hn : 0 < n) : ∃ g c, v = .slice (some ⟨g, 0, none⟩) n c ∧ V.cell? ⟨g, j, none⟩ = some u := by
  rcases h.2 with ⟨_, e2⟩ | ⟨g, cap, cur, rfl, _, h2, _, _, _, h6⟩
  · omega
  · refine ⟨g, cap, rfl, cell_of ((hV.block g (blk_lt h2)).trans h2) ?_⟩
    rw [← h6, List.getElem?_take] at hj
    split at hj
    · simpa using hj
    · cases hj
theorem cP2_get : ∀ (l : List P2) (i : Nat) (x : P2), l[i]? = some x → (cP2 l)[i * 2]? = some (.string x.1) ∧ (cP2 l)[i * 2 + 1]? = some (.string x.2)
  | [], i, x, h => by simp at h
  | y :: l, 0, x, h => by simp at h; subst h; exact ⟨rfl, rfl⟩
  | y :: l, i + 1, x, h => by
    have := cP2_get l i x (by simpa using h)
    rw [show (i + 1) * 2 = i * 2 + 2 by omega]
    exact this
set_option maxRecDepth 100000 in
set_option maxHeartbeats 4000000 in
theorem items_ {w : World} {B B2 : Nat} {a a2 : Option Addr} {c c2 : Nat} {Z : List MI} {P : List P2} (h : RowO w B (.slice a Z.length c) (Z.map (·.1))) (hz : Z.map mi = P) (hrows : ∀ z ∈ Z, RowAt w z.1.2 z.2) (h2 : RowP2 w B2 (.slice a2 P.length c2) P) (hl : P.length ≤ 100000) :
    Calls Tryz.prog 9 #[.slice a Z.length c, .slice a2 P.length c2] w fun e w' => e = .returned (.bool true) ∧ Below w.heap.size w w' := by
  have hzl : P.length = Z.length := by rw [← hz, List.length_map]
  have HX : Hid (∀ i, i < Z.length → ∃ (z : MI) (g g2 : Nat), a = some ⟨g, 0, none⟩ ∧ a2 = some ⟨g2, 0, none⟩ ∧ ∀ V, Below w.heap.size w V → V.cell? ⟨g, i * 2, none⟩ = some (.string z.1.1) ∧ V.cell? ⟨g, i * 2 + 1, none⟩ = some (.slice z.1.2.a z.1.2.n z.1.2.c) ∧ V.cell? ⟨g2, i * 2, none⟩ = some (.string z.1.1) ∧ V.cell? ⟨g2, i * 2 + 1, none⟩ = some (.string z.2) ∧ (convert 33 9 (.slice z.1.2.a z.1.2.n z.1.2.c)).run Tryz.prog V = .ok (.string z.2) V) := fun i hi => by
    obtain ⟨z, hz1⟩ : ∃ z, Z[i]? = some z := ⟨_, List.getElem?_eq_getElem hi⟩
    have hz2 : (Z.map (·.1))[i]? = some z.1 := by rw [List.getElem?_map, hz1]; rfl
    have hz3 : P[i]? = some (mi z) := by rw [← hz, List.getElem?_map, hz1]; rfl
    obtain ⟨k1, k2⟩ := cI_get _ i _ hz2
    obtain ⟨k3, k4⟩ := cP2_get _ i _ hz3
    have hn : 0 < (Z.map (·.1)).length := by rw [List.length_map]; omega
    have hn2 : 0 < P.length := by omega
    obtain ⟨g, _, e1, _⟩ := row_cells h (Below.refl _ _) k1 hn
    obtain ⟨g2, _, e2, _⟩ := row_cells h2 (Below.refl _ _) k3 hn2
    simp only [Value.slice.injEq] at e1 e2
    refine ⟨z, g, g2, e1.1, e2.1, fun V hV => ?_⟩
    obtain ⟨_, _, e3, f1⟩ := row_cells h hV k1 hn
    obtain ⟨_, _, e4, f2⟩ := row_cells h hV k2 hn
    obtain ⟨_, _, e5, f3⟩ := row_cells h2 hV k3 hn2
    obtain ⟨_, _, e6, f4⟩ := row_cells h2 hV k4 hn2
    simp only [Value.slice.injEq, e1.1, e2.1, Option.some.injEq, Addr.mk.injEq] at e3 e4 e5 e6
    obtain ⟨⟨rfl, _⟩, _⟩ := e3
    obtain ⟨⟨rfl, _⟩, _⟩ := e4
    obtain ⟨⟨rfl, _⟩, _⟩ := e5
    obtain ⟨⟨rfl, _⟩, _⟩ := e6
    have hr := (hrows z (List.mem_of_getElem? hz1)).on hV
    obtain ⟨r1, r2, r3⟩ := hr.bytes
    have hcv := conv_ V z.1.2.a z.1.2.n z.1.2.c (bsN z.2) r1 r2
    rw [bs_bsN] at hcv
    exact ⟨f1, f2, f3, f4, hcv⟩
  rw [hzl] at hl ⊢
  clear h hz hrows h2 hzl
  generalize Z.length = L at *
  have heq : ((L : Int) == (L : Int)) = true := by simp
  go_enter Tryz.func9, Tryz.ntmps9
  go_wp2_with fail
  go_loopg [5] L (fun kx v5 wr => ∃ i : Nat, v5 = .int .i64 i ∧ i ≤ L ∧ L - i ≤ kx ∧ Hid (Below w.heap.size w wr))
  case atStart => exact ⟨0, rfl, Nat.zero_le _, by omega, Below.refl _ _⟩
  case round =>
    obtain ⟨i, rfl, hi, hkx, HB⟩ := hrel
    by_cases hlt : i < L
    · obtain ⟨z, g, g2, rfl, rfl, hc⟩ := HX.out i hlt
      obtain ⟨d1, d2, d3, d4, _⟩ := hc wr HB.out
      have hcv : ∀ q, (convert 33 9 (.slice z.1.2.a z.1.2.n z.1.2.c)).run Tryz.prog (wr.drewN q) = .ok (.string z.2) (wr.drewN q) := fun q => (hc _ (below_step HB.out (below_drewN (Below.refl wr.heap.size wr) q))).2.2.2.2
      have hw1 := wraps_i64 ((i : Int) + 1) (by omega) (by omega)
      have hlt' : (i : Int) < (L : Int) := by omega
      have hiL := decide_eq_true hlt
      clear hc HX
      obtain ⟨⟨zk, zr⟩, zs⟩ := z
      dsimp only at d1 d2 d3 d4 hcv
      have e1 : (zk.toList == zk.toList) = true := by simp
      have e2 : (zs.toList == zs.toList) = true := by simp
      go_wp2_with fail
      go_big_quiet (fail)
      have HB2 : Hid (Below w.heap.size w (wr.drewN nq)) := below_step HB.out (below_drewN (Below.refl wr.heap.size wr) nq)
      generalize wr.drewN nq = wa at *
      clear d1 d2 d3 d4 hcv
      go_wp2_with fail
      go_roundg (L - (i + 1))
      case measure => omega
      case rel => exact ⟨i + 1, by rw [show (i : Int) + 1 = ((i + 1 : Nat) : Int) by omega], by omega, Nat.le_refl _, HB2⟩
    · obtain rfl : i = L := by omega
      have hge : ¬ (i : Int) < (i : Int) := by omega
      go_wp2_with fail
      go_ret
      exact ⟨rfl, HB.out⟩
end Go.Proofs.YtagamkahfiackaaGreatDoor
