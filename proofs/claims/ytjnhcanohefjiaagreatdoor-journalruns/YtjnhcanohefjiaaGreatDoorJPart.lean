/- journal's Len, Room, Waits, Epoch; refuse, fail, end, part. -/
import Derived.Test.YtjnhcanohefjiaaGreatDoorJEnds
namespace Go.Proofs.YtjnhcanohefjiaaGreatDoor
open Go.RowKit Go.Sort Go.Maps

theorem Own.shape {w : World} {base : Nat} {v : Value} {xs : List Nat} (h : Own w base v xs) : (v = .slice none 0 0 ∧ xs = []) ∨ ∃ g c, v = .slice (some ⟨g, 0, none⟩) xs.length c ∧ xs.length ≤ c ∧ BytesIn w (some ⟨g, 0, none⟩) xs := by
  rcases h.2 with ⟨e, e0⟩ | ⟨g, cap, cur, e, h1, h2, h3, _⟩
  · exact .inl ⟨e, List.eq_nil_of_length_eq_zero e0⟩
  · subst e
    exact .inr ⟨g, cap, rfl, h3, h.cells.2.1⟩
theorem OwnI.shape {w : World} {base : Nat} {v : Value} {xs : List Nat} (h : OwnI w base v xs) : ∃ a c, v = .slice a xs.length c ∧ xs.length ≤ c := by
  rcases h.2 with ⟨e, e0⟩ | ⟨g, cap, cur, e, h1, h2, h3, _⟩
  · exact ⟨none, 0, by rw [e, e0], by omega⟩
  · exact ⟨_, cap, e, h3⟩
set_option maxHeartbeats 1000000 in
theorem jlen_ {w : World} {base p q : Nat} {J : Jr} {rv ev : Value} (h : JrIn w base p q J rv ev) :
    Calls Tryz.prog 13 #[.pointer (some ⟨q, 0, none⟩)] w fun e w' => e = .returned (.int .i64 (J.row.length : Nat)) ∧ w' = w := by
  obtain ⟨_, _, _, _, _, c5, _⟩ := h.cells
  obtain ⟨a, c, hv, _⟩ := h.row.bytes
  subst hv
  generalize J.row.length = n at *
  clear h
  go_enter Tryz.func13, Tryz.ntmps13
  go_wp2_with fail
  go_ret
  exact ⟨rfl, rfl⟩
set_option maxHeartbeats 1000000 in
theorem jepoch_ {w : World} {base p q : Nat} {J : Jr} {rv ev : Value} (h : JrIn w base p q J rv ev) :
    Calls Tryz.prog 17 #[.pointer (some ⟨q, 0, none⟩)] w fun e w' => e = .returned (.int .u64 (J.ep : Nat)) ∧ w' = w := by
  obtain ⟨_, _, _, _, c4, _⟩ := h.cells
  generalize J.ep = n at *
  clear h
  go_enter Tryz.func17, Tryz.ntmps17
  go_wp2_with fail
  go_ret
  exact ⟨rfl, rfl⟩
theorem below_drewNs (w : World) (n : Nat) : Below w.heap.size w (w.drewN n) := below_drewN (Below.refl _ _) n
set_option maxHeartbeats 1000000 in
theorem jroom_ {w : World} {base p q : Nat} {J : Jr} {rv ev : Value} (h : JrIn w base p q J rv ev) :
    Calls Tryz.prog 14 #[.pointer (some ⟨q, 0, none⟩)] w fun e w' => e = .returned (.int .i64 (64 * J.a.s - (J.row.length : Nat))) ∧ Below w.heap.size w w' := by
  obtain ⟨_, _, _, c3, _, c5, _⟩ := h.cells
  obtain ⟨a, c, hv, _⟩ := h.row.bytes
  have hs := h.ok.s
  have hl := h.ok.row_le
  subst hv
  generalize J.row.length = n at *
  generalize J.a.s = s at *
  clear h
  have hw1 := wraps_i64 (s * 64) (by omega) (by omega)
  have hw2 := wraps_i64 (s * 64 - (n : Int)) (by omega) (by omega)
  go_enter Tryz.func14, Tryz.ntmps14
  go_wp2_with fail
  go_big_quiet (fail)
  have HB := Lib.hid (below_drewNs w nq)
  go_wp2_with fail
  go_ret
  exact ⟨ret_int (by omega), HB.out⟩
set_option maxHeartbeats 1000000 in
theorem jwaits_ {w : World} {base p q : Nat} {J : Jr} {rv ev : Value} (h : JrIn w base p q J rv ev) :
    Calls Tryz.prog 16 #[.pointer (some ⟨q, 0, none⟩)] w fun e w' => e = .returned (.int .i64 ((J.pss.length - J.sf : Nat) : Int)) ∧ Below w.heap.size w w' := by
  obtain ⟨_, _, _, _, _, _, c6, c7, _⟩ := h.cells
  obtain ⟨a, c, hv, _⟩ := h.ends.shape
  have hs := h.ok.sf
  have hl := h.ok.count
  rw [ends_len] at hv
  subst hv
  generalize J.pss.length = n at *
  generalize J.sf = s at *
  clear h
  have hw2 := wraps_i64 ((n : Int) - (s : Int)) (by omega) (by omega)
  go_enter Tryz.func16, Tryz.ntmps16
  go_wp2_with fail
  go_big_quiet (fail)
  have HB := Lib.hid (below_drewNs w nq)
  go_wp2_with fail
  go_ret
  exact ⟨ret_int (by omega), HB.out⟩
set_option maxHeartbeats 1000000 in
theorem jrefuse_ {w : World} {base p q : Nat} {J : Jr} {rv ev : Value} (h : JrIn w base p q J rv ev) :
    Calls Tryz.prog 41 #[.pointer (some ⟨q, 0, none⟩)] w fun e w' => e = .returned (errV J.dead) ∧ w' = w := by
  obtain ⟨_, _, _, _, _, _, _, _, c8⟩ := h.cells
  generalize errV J.dead = n at *
  clear h
  go_enter Tryz.func41, Tryz.ntmps41
  go_wp2_with fail
  go_ret
  exact ⟨rfl, rfl⟩
theorem Jr.dead_row (J : Jr) (k : Nat) : ({ J with dead := k } : Jr).row = J.row := rfl
theorem okJ.kill {J : Jr} (h : okJ J) (k : Nat) : okJ { J with dead := k } := ⟨h.pays, h.ep, h.sf, h.len, h.g, h.f, h.s⟩
set_option maxHeartbeats 1000000 in
theorem jfail_ {w : World} {base p aa bb q : Nat} {d : Dev} {K : Nat} {J : Jr} {rv ev : Value} (h : Jn w base p aa bb q d K J rv ev) (k : Nat) :
    Calls Tryz.prog 44 #[.pointer (some ⟨q, 0, none⟩), errV k] w fun e w' => e = .returned (errV k) ∧ Jn w' base p aa bb q d K { J with dead := k } rv ev ∧ Ext (Mine p aa bb q rv ev) (Mine p aa bb q rv ev) w w' := by
  obtain ⟨_, _, _, _, _, _, _, _, c8⟩ := h.jr.cells
  have f8 : w.frozen? ⟨q, 8, none⟩ = false := frozen_of h.jr.blk
  have hb : (w.setCell ⟨q, 8, none⟩ (errV k)).heap[q]? = some (.cells (jrC p { J with dead := k } rv ev) 80 (0, 0)) := heap_set _ h.jr.blk
  have hf : ∀ i, i ≠ q → (w.setCell ⟨q, 8, none⟩ (errV k)).heap[i]? = w.heap[i]? := fun i hi => heap_far _ hi
  have H : Hid (Jn (w.setCell ⟨q, 8, none⟩ (errV k)) base p aa bb q d K { J with dead := k } rv ev ∧ Ext (Mine p aa bb q rv ev) (Mine p aa bb q rv ev) w (w.setCell ⟨q, 8, none⟩ (errV k))) :=
    ⟨h.setq hb hf h.jr.row h.jr.ends (h.jr.ok.kill k), Ext.setq rfl rfl rfl (by simp [World.setCell]) hf (fun _ h => h) (fun _ h => h)⟩
  clear h hb hf
  generalize errV J.dead = m at *
  by_cases hk : k = 0
  · subst hk
    have e0 : errV 0 = .nilIface := rfl
    rw [e0] at H ⊢
    go_enter Tryz.func44, Tryz.ntmps44
    go_wp2_with fail
    go_ret
    exact ⟨rfl, H.out⟩
  · rw [errV_not hk] at H ⊢
    go_enter Tryz.func44, Tryz.ntmps44
    go_wp2_with fail
    go_ret
    exact ⟨rfl, H.out⟩
set_option maxHeartbeats 1000000 in
theorem jend_ {w : World} {base p q : Nat} {J : Jr} {rv ev : Value} (h : JrIn w base p q J rv ev) (n : Nat) (hn : n ≤ J.pss.length) :
    Calls Tryz.prog 45 #[.pointer (some ⟨q, 0, none⟩), .int .i64 n] w fun e w' => e = .returned (.int .i64 (J.upto n : Nat)) ∧ w' = w := by
  by_cases h0 : n = 0
  · subst h0
    rw [upto_zero]
    clear h hn
    go_enter Tryz.func45, Tryz.ntmps45
    go_wp2_with fail
    go_ret
    exact ⟨rfl, rfl⟩
  · obtain ⟨_, _, _, _, _, _, c6, _⟩ := h.cells
    obtain ⟨a, c, hv, hcell⟩ := h.ends.slice
    rw [ends_len] at hv hcell
    obtain ⟨b, o, rfl, hc⟩ := hcell (n - 1) (by omega)
    rw [ends_get J n h0 hn] at hc
    have hcn := h.ok.count
    subst hv
    generalize J.upto n = u at *
    generalize J.pss.length = l at *
    clear h hcell
    obtain ⟨m, rfl⟩ : ∃ m, n = m + 1 := ⟨n - 1, by omega⟩
    rw [Nat.add_sub_cancel] at hc
    have hne : (((m + 1 : Nat) : Int) == 0) = false := by simpa using (by omega : ¬ ((m + 1 : Nat) : Int) = 0)
    have hw := wraps_i64 (m : Int) (by omega) (by omega)
    have hs : (m : Int) + 1 - 1 = m := by omega
    have h1 : (m : Int) < (l : Int) := by omega
    have h2 : (0 : Int) ≤ (m : Int) := by omega
    clear h0 hn
    go_enter Tryz.func45, Tryz.ntmps45
    go_wp2_with fail
    go_ret
    exact ⟨rfl, rfl⟩
end Go.Proofs.YtjnhcanohefjiaaGreatDoor
