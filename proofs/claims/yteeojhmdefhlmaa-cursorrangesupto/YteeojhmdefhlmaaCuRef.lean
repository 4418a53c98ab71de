/- The document's Has, Empty, Prefix. -/
import Derived.Test.YteeojhmdefhlmaaCuMeet
import Derived.Test.YteeojhmdefhlmaaCuRNx
namespace Go.Proofs.Yteeojhmdefhlmaa
open Go.RowKit Go.Sort

set_option maxRecDepth 100000 in
set_option maxHeartbeats 1000000 in
theorem rhas_ (r : Rg) (k : ByteArray) (w : World) : Calls Try.prog 8 #[rgV r, .string k] w fun e w' => e = .returned (.bool (hasR r k)) ∧ Below w.heap.size w w' := by
  obtain ⟨f, t, hf, ht, pf, po⟩ := r
  obtain ⟨b1, hb1⟩ : ∃ b, b = behR ⟨f, t, hf, ht, pf, po⟩ k := ⟨_, rfl⟩
  obtain ⟨b2, hb2⟩ : ∃ b, b = ahdR ⟨f, t, hf, ht, pf, po⟩ k := ⟨_, rfl⟩
  obtain ⟨R, hR⟩ : ∃ R, R = hasR ⟨f, t, hf, ht, pf, po⟩ k := ⟨_, rfl⟩
  have HR : Hid (R = (b1 && b2)) := by show _ = _; rw [hR, hb1, hb2]; rfl
  rw [← hR]
  obtain ⟨W0, hW0⟩ : ∃ W0, W0 = w.alloc (.cells #[.string f, .string t, .bool hf, .bool ht, .bool pf, .bool po] 23) := ⟨_, rfl⟩
  have HB : Hid (Below w.heap.size w W0) := by show Below _ _ _; rw [hW0]; exact below_alloc w _
  obtain ⟨c0, c1, c2, c3, c4, c5⟩ : RgAt W0 w.heap.size ⟨f, t, hf, ht, pf, po⟩ := by rw [hW0]; exact rgAt_new w ⟨f, t, hf, ht, pf, po⟩ _
  have HB1 := Lib.hid hb1
  have HB2 := Lib.hid hb2
  clear hR hb1 hb2
  unfold rgV
  dsimp only at *
  go_enter Try.func8, Try.ntmps8
  go_upto_region 1 with fail
  rw [← hW0]
  clear hW0
  generalize hn : w.heap.size = n at *
  have HNn := Lib.hid hn
  clear hn
  go_cut [5] from 7 to 26 (fun s wx => s = .bool b1 ∧ wx = W0)
  case first =>
    clear c1 c3 c5
    rcases ord3 k f with ⟨h1, h2, h3, _, _, h5, h6, _⟩ | ⟨h1, h2, h3, _, _, h5, h6, _⟩ | ⟨h1, h2, h3, _, _, h5, h6, _⟩
    all_goals (
      cases hf <;> cases pf
      all_goals (
        go_wp2_with fail
        go_meet
        case rel => exact ⟨by rw [HB1.out]; simp [behR, h5, h6], rfl⟩))
  case rest =>
    obtain ⟨rfl, hw⟩ := hcut
    subst hw
    go_upto_region 2 with fail
    go_cut [6] from 27 to 46 (fun s wx => s = .bool b2 ∧ wx = wc)
    case first =>
      clear c0 c2 c4
      rcases ord3 k t with ⟨h1, h2, h3, _, h5, _, h6, _⟩ | ⟨h1, h2, h3, _, h5, _, h6, _⟩ | ⟨h1, h2, h3, _, h5, _, h6, _⟩
      all_goals (
        cases ht <;> cases po
        all_goals (
          go_wp2_with fail
          go_meet
          case rel => exact ⟨by rw [HB2.out]; simp [ahdR, h5, h6], rfl⟩))
    case rest =>
      obtain ⟨rfl, hw⟩ := hcut
      subst hw
      cases b1
      all_goals (
        go_wp2_with fail
        go_ret
        exact ⟨by rw [HR.out]; simp, by rw [HNn.out]; exact HB.out⟩)
theorem has_same (f : ByteArray) (pf po : Bool) : hasR ⟨f, f, true, true, pf, po⟩ f = (!pf && !po) := by
  unfold hasR behR ahdR
  simp [ltb_irrefl, sameb_self]
set_option maxRecDepth 100000 in
set_option maxHeartbeats 1000000 in
theorem rempty_ (r : Rg) (w : World) : Calls Try.prog 10 #[rgV r] w fun e w' => e = .returned (.bool (empR r)) ∧ Below w.heap.size w w' := by
  obtain ⟨f, t, hf, ht, pf, po⟩ := r
  have HB := Lib.hid (below_alloc w (.cells #[.string f, .string t, .bool hf, .bool ht, .bool pf, .bool po] 23))
  obtain ⟨R, hR⟩ : ∃ R, R = empR ⟨f, t, hf, ht, pf, po⟩ := ⟨_, rfl⟩
  have HR := Lib.hid hR
  rw [← hR]
  clear hR
  have HH : Hid (∀ W, Calls Try.prog 8 #[rgV ⟨f, f, true, true, pf, po⟩, .string f] W fun e w' => e = .returned (.bool (!pf && !po)) ∧ Below W.heap.size W w') := fun W => by
    have := rhas_ ⟨f, f, true, true, pf, po⟩ f W
    rw [has_same] at this
    exact this
  unfold rgV at *
  dsimp only at *
  cases hf with
  | false =>
    go_enter Try.func10, Try.ntmps10
    go_wp2_with fail
    go_ret
    exact ⟨by rw [HR.out]; simp [empR], HB.out⟩
  | true =>
    cases ht with
    | false =>
      go_enter Try.func10, Try.ntmps10
      go_wp2_with fail
      go_ret
      exact ⟨by rw [HR.out]; simp [empR], HB.out⟩
    | true =>
      have hne : ∀ {a b : ByteArray}, a ≠ b → (a.toList == b.toList) = false := fun {a b} h => by
        simp only [beq_eq_false_iff_ne, ne_eq]
        exact fun e => h (toList_inj e)
      rcases ltb_cases f t with q | rfl | q
      · have h1 : Op.bytesLess f.toList t.toList = true := q
        have h2 : Op.bytesLess t.toList f.toList = false := ltb_asymm q
        have h3 := hne (ltb_ne q)
        have h5 := ltb_asymm q
        have h6 := sameb_lt q
        clear hne
        go_enter Try.func10, Try.ntmps10
        go_wp2_with fail
        go_ret
        exact ⟨by rw [HR.out]; simp [empR, h5, h6], HB.out⟩
      · have h1 : Op.bytesLess f.toList f.toList = false := less_irrefl _
        have h3 : (f.toList == f.toList) = true := by simp
        clear hne
        go_enter Try.func10, Try.ntmps10
        go_wp2_with (first | (go_at_call 8; refine (HH.out _).mono ?_; rintro e w' ⟨rfl, hb⟩; have HB2 := Lib.hid hb; clear hb) | fail)
        go_ret
        exact ⟨by rw [HR.out]; simp [empR, ltb_irrefl, sameb_self], below_step HB.out HB2.out⟩
      · have h1 : Op.bytesLess t.toList f.toList = true := q
        have h2 : Op.bytesLess f.toList t.toList = false := ltb_asymm q
        have h3 := hne (Ne.symm (ltb_ne q))
        clear hne
        go_enter Try.func10, Try.ntmps10
        go_wp2_with fail
        go_ret
        exact ⟨by rw [HR.out]; simp [empR, q], HB.out⟩
theorem store_rr {N : Nat} {w W : World} {g : Nat} {old : Array Value} (r : Rg) (h : W.heap[g]? = some (.cells old 23 (0, 0))) (ho : old.size = 6) (hg : N ≤ g) (hb : Below N w W) :
    ∃ V, (Instr.storeAt 23 (.pointer (some ⟨g, 0, none⟩)) (.agg #[.string r.f, .string r.t, .bool r.hf, .bool r.ht, .bool r.pf, .bool r.pt])).run Try.prog W = .ok () V ∧ RgAt V g r ∧ Below N w V ∧ (∀ k, k ≠ g → V.heap[k]? = W.heap[k]?) ∧ V.heap.size = W.heap.size := by
  obtain ⟨V, h1, h2, h3⟩ := store_row #[.string r.f, .string r.t, .bool r.hf, .bool r.ht, .bool r.pf, .bool r.pt] h (by kernel_rfl) ho (by simp [Value.oneCell']) hg hb
  exact ⟨V, h1, ⟨cell_of h2 rfl, cell_of h2 rfl, cell_of h2 rfl, cell_of h2 rfl, cell_of h2 rfl, cell_of h2 rfl⟩, h3⟩
set_option maxRecDepth 100000 in
theorem rpfx_ (s : ByteArray) (w : World) (hs : s.size ≤ 140737488351232) : Calls Try.prog 16 #[.string s] w fun e w' => e = .returned (rgV (pfxR s)) ∧ Below w.heap.size w w' := by
  have HN : Hid (∀ W, Calls Try.prog 33 #[.string s] W fun e w' => e = .returned (nxtV s.data.toList) ∧ Below W.heap.size W w') := fun W => rnext_ s W hs
  obtain ⟨T, b, e1, e2⟩ : ∃ (T : ByteArray) (b : Bool), nxtV s.data.toList = .tuple #[.string T, .bool b] ∧ pfxR s = ⟨s, T, true, b, false, b⟩ := by
    unfold nxtV pfxR
    cases nxt s.data.toList with
    | none => exact ⟨_, _, rfl, rfl⟩
    | some t => exact ⟨_, _, rfl, rfl⟩
  rw [e1] at HN
  rw [e2]
  have HW := Lib.hid (new_blk w (.cells #[.string ⟨#[]⟩, .string ⟨#[]⟩, .bool false, .bool false, .bool false, .bool false] 23))
  have HB0 := Lib.hid (below_alloc w (.cells #[.string ⟨#[]⟩, .string ⟨#[]⟩, .bool false, .bool false, .bool false, .bool false] 23))
  clear e1 e2
  unfold rgV
  dsimp only
  go_enter Try.func16, Try.ntmps16
  go_upto_region 1 with fail
  generalize (w.alloc (.cells #[.string ⟨#[]⟩, .string ⟨#[]⟩, .bool false, .bool false, .bool false, .bool false] 23)) = W0 at *
  go_wp2_with (first
    | (go_at_call 33; refine (HN.out _).mono ?_; rintro e w' ⟨rfl, hb⟩
       obtain ⟨V, hst, hRg, hB, _⟩ := store_rr ⟨s, T, true, b, false, b⟩ (blkKeep hb HW.out) rfl (Nat.le_refl _) (below_step HB0.out hb)
       obtain ⟨g0, g1, g2, g3, g4, g5⟩ := hRg
       have HB := Lib.hid hB
       clear hB hb)
    | (refine wpList_store_at rfl _ _ _ rfl _ _ rfl rfl hst ?_; clear hst) | fail)
  refine bodyPost_ret (v := .agg #[.string s, .string T, .bool true, .bool b, .bool false, .bool b]) ?_ rfl ⟨rfl, HB.out⟩
  rw [results_cell rfl]
  go_simp
end Go.Proofs.Yteeojhmdefhlmaa
