/- The walks of last, upTo, row and with. -/
import Derived.Test.YtagamkahfiackaaGreatDoorVnMem
namespace Go.Proofs.YtagamkahfiackaaGreatDoor
open Go.RowKit Go.Sort

theorem snoc_cases {α : Type} (L : List α) : L = [] ∨ ∃ D x, L = D ++ [x] := by
  rcases List.eq_nil_or_concat L with h | ⟨D, x, h⟩
  · exact .inl h
  · exact .inr ⟨D, x, by rw [h, List.concat_eq_append]⟩
theorem pvs_snoc (D : List MV) (x : MV) : pvs (D ++ [x]) = pvs D ++ [x.v] := by simp [pvs]
theorem pvs_get {L : List MV} {i : Nat} {x : MV} (h : L[i]? = some x) : (pvs L)[i]? = some x.v := by simp [pvs, h]
set_option maxRecDepth 100000 in
theorem last_ {w : World} {v : Vl} {L : List MV} (hn : v.n = L.length) (hv : VerIn w v.a L) (hl : L.length ≤ 1000000) :
    Calls Tryz.prog 30 #[.slice v.a v.n v.c] w fun e w' => e = .returned (.int .i64 (lastC (pvs L))) ∧ w' = w := by
  obtain ⟨a, n, c⟩ := v
  simp only at hn hv
  subst hn
  rcases snoc_cases L with rfl | ⟨D, x, rfl⟩
  · clear hv hl
    go_enter Tryz.func30, Tryz.ntmps30
    go_wp2_with fail
    go_ret
    exact ⟨rfl, rfl⟩
  · obtain ⟨g, rfl, hg, c1, _, _⟩ := hv D.length x (by simp)
    rw [pvs_snoc, last_snoc, List.length_append]
    rw [List.length_append] at hl
    simp only [List.length_cons, List.length_nil, Nat.zero_add] at hl ⊢
    clear hv
    generalize D.length = d at *
    have h0 : ¬ ((d : Int) + 1 = 0) := by omega
    have hw := wraps_i64 (d : Int) (by omega) (by omega)
    go_enter Tryz.func30, Tryz.ntmps30
    go_wp2_with fail
    go_ret
    exact ⟨rfl, rfl⟩
set_option maxRecDepth 100000 in
theorem up1_ {w : World} {bc bt i : Nat} {v : Vl} {L : List MV} {t : Int} {x : MV} (hn : v.n = L.length) (hv : VerIn w v.a L) (hx : L[i]? = some x) (c0 : w.cell? ⟨bc, 0, none⟩ = some (.slice v.a v.n v.c)) (c1 : w.cell? ⟨bt, 0, none⟩ = some (.int .i64 t)) :
    Calls Tryz.prog 60 #[.int .i64 i, .pointer (some ⟨bc, 0, none⟩), .pointer (some ⟨bt, 0, none⟩)] w fun e w' => e = .returned (.bool (decide (t < x.v.cm))) ∧ Below w.heap.size w w' := by
  obtain ⟨a, n, c⟩ := v
  simp only at hn hv c0
  have hi := (List.getElem?_eq_some_iff.1 hx).1
  rw [← hn] at hi
  obtain ⟨g, rfl, hg, c2, _, _⟩ := hv i x hx
  have HB := Lib.hid (below_drew w)
  generalize x.v.cm = m at *
  clear hn hv hx hg
  go_enter Tryz.func60, Tryz.ntmps60
  go_wp2_with fail
  go_region_held (fun V => V.cell? ⟨bc, 0, none⟩ = some (.slice (some ⟨g, 0, none⟩) n c) ∧ V.cell? ⟨bt, 0, none⟩ = some (.int .i64 t) ∧ V.cell? ⟨g, i * 3, none⟩ = some (.int .i64 m)) (go_keep) (fail)
  go_wp2_with fail
  go_ret
  exact ⟨rfl, HB.out⟩
set_option maxRecDepth 100000 in
set_option maxHeartbeats 1000000 in
theorem search_ {w : World} {n u bc bt : Nat} (hu : u ≤ n) (hn : n ≤ 1000000) (HF : ∀ V (i : Nat), Below w.heap.size w V → i < n → Calls Tryz.prog 60 #[.int .i64 i, .pointer (some ⟨bc, 0, none⟩), .pointer (some ⟨bt, 0, none⟩)] V fun e w' => e = .returned (.bool (decide (u ≤ i))) ∧ Below V.heap.size V w') :
    Calls Tryz.prog 59 #[.int .i64 n, .func (.func 60) #[] #[.pointer (some ⟨bc, 0, none⟩), .pointer (some ⟨bt, 0, none⟩)]] w fun e w' => e = .returned (.int .i64 u) ∧ Below w.heap.size w w' := by
  have B0 := Lib.hid (Below.refl w.heap.size w)
  have HH := Lib.hid HF
  clear HF
  go_enter Tryz.func59, Tryz.ntmps59
  go_wp2_with fail
  go_loopg [5, 6] n (fun kx s9 s10 wr => ∃ lo hi : Nat, s9 = .int .i64 lo ∧ s10 = .int .i64 hi ∧ lo ≤ u ∧ u ≤ hi ∧ hi ≤ n ∧ hi - lo ≤ kx ∧ Hid (Below w.heap.size w wr))
  case atStart => exact ⟨0, n, rfl, rfl, Nat.zero_le _, hu, Nat.le_refl _, by omega, B0⟩
  case round =>
    clear B0
    obtain ⟨lo, hi, rfl, rfl, hlu, huh, hin, hg, S1⟩ := hrel
    by_cases hlt : lo < hi
    · have HC := Lib.hid (HH.out wr ((lo + hi) / 2) S1.out (by omega))
      by_cases hm : u ≤ (lo + hi) / 2
      · have hd : decide (u ≤ (lo + hi) / 2) = true := decide_eq_true hm
        rw [hd] at HC
        clear hd
        go_wp2_with (first | (go_at_call 60; refine HC.out.mono ?_; rintro e w' ⟨rfl, hb⟩; have HB := Lib.hid hb; clear hb) | fail)
        go_roundg ((lo + hi) / 2 - lo)
        case measure => omega
        case rel => exact ⟨lo, (lo + hi) / 2, rfl, by rw [show ((lo : Int) + (hi : Int)) / 2 = (((lo + hi) / 2 : Nat) : Int) by omega], by omega, by omega, by omega, Nat.le_refl _, below_step S1.out HB.out⟩
      · have hd : decide (u ≤ (lo + hi) / 2) = false := decide_eq_false hm
        rw [hd] at HC
        clear hd
        go_wp2_with (first | (go_at_call 60; refine HC.out.mono ?_; rintro e w' ⟨rfl, hb⟩; have HB := Lib.hid hb; clear hb) | fail)
        go_roundg (hi - ((lo + hi) / 2 + 1))
        case measure => omega
        case rel => exact ⟨(lo + hi) / 2 + 1, hi, by rw [show ((lo : Int) + (hi : Int)) / 2 + 1 = (((lo + hi) / 2 + 1 : Nat) : Int) by omega], rfl, by omega, by omega, hin, Nat.le_refl _, below_step S1.out HB.out⟩
    · obtain rfl : hi = lo := by omega
      obtain rfl : u = hi := by omega
      go_wp2_with fail
      go_ret
      exact ⟨rfl, S1.out⟩
end Go.Proofs.YtagamkahfiackaaGreatDoor
