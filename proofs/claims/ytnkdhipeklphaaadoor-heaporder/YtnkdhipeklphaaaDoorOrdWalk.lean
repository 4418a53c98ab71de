/- The walk of the law HeapOrder. -/
import Derived.Test.YtnkdhipeklphaaaDoorHSure
import Derived.Test.YtnkdhipeklphaaaDoorHAs
import Derived.Test.YtnkdhipeklphaaaDoorHRow
namespace Go.Proofs.YtnkdhipeklphaaaDoor
open Go.RowKit Go.Sort Go.Maps

/-- What a queue of these ranks holds. -/
def Of (f : Nat → Int) (i : Nat) (r : List Sl) : Prop := ∀ x ∈ r, ∃ k : Nat, k < i ∧ x.id = k ∧ x.rank = f k ∧ x.turn = (k : Int) + 1 ∧ x.text = ⟨#[]⟩
set_option maxHeartbeats 2000000 in
theorem law_order (a : Option Addr) (L c : Nat) (f : Nat → Int) (w : World) (hin : IntsAt w a L f) (hE : ErrType w) :
    Calls Tryd.prog 4 #[.slice a L c] w fun e w' => e = .returned (.bool true) ∧ Below w.heap.size w w' := by
  have HI := Lib.hid hin
  have HE := Lib.hid hE
  have HN := Lib.hid (new_ w)
  obtain ⟨n, hn⟩ : ∃ n : Nat, n = min L 300 := ⟨_, rfl⟩
  have hmn : min ((L : Nat) : Int) 300 = (n : Int) := by omega
  have hnL : n ≤ L := by omega
  have hn3 : n ≤ 300 := by omega
  clear hin hE hn
  go_enter Tryd.func4, Tryd.ntmps4
  go_wp2_with fail
  refine HN.out.mono ?_
  rintro e w1 ⟨rfl, hb1, hq1⟩
  have HB1 := Lib.hid hb1
  have HQ1 := Lib.hid hq1
  clear hb1 hq1 HN
  go_wp2_with fail
  go_loopw [5] (fun iv wr => ∃ i : Nat, i ≤ n ∧ iv = .int .i64 i ∧ Hid (∃ r mv v b S, Qu wr w.heap.size w.heap.size r i mv v i b S ∧ Of f i r ∧ Below w.heap.size w wr)) (fun iv _ => n - (intOf iv).toNat)
  case atStart => exact ⟨0, Nat.zero_le _, rfl, [], _, _, _, _, HQ1.out, fun x hx => by simp at hx, HB1.out⟩
  case round =>
    obtain ⟨i, hi, rfl, H⟩ := hrel
    clear HQ1 HB1
    by_cases hlt : i < n
    · have hlt2 : (i : Int) < (n : Int) := by omega
      obtain ⟨r, mv, v, b, S, hq, hof, hb⟩ := H.out
      obtain ⟨g, o, rfl, hcell, hfi⟩ := (HI.out.on rfl hb) i (by omega)
      have hiL : (i : Int) < (L : Int) := by omega
      have HP := Lib.hid (push_ hq (i : Int) (f i) ⟨by omega, by omega⟩ hfi (fun y hy e => by obtain ⟨k, hk, e', _⟩ := hof y hy; omega) (by omega) (by omega))
      have HB := Lib.hid hb
      have HOF := Lib.hid hof
      have HQ := Lib.hid hq
      generalize hfe : f i = fi at *
      clear hq hof hb H
      go_wp2_with fail
      refine HP.out.mono ?_
      rintro e w2 ⟨rfl, ⟨mv2, v2, b2, S2, hq2⟩, hf2⟩
      have HE2 : Hid (∃ r mv v b S, Qu w2 w.heap.size w.heap.size r (i + 1) mv v (i + 1) b S ∧ Of f (i + 1) r ∧ Below w.heap.size w w2) := by
        refine ⟨_, _, _, _, _, hq2, fun x hx => ?_, HB.out.trans (hf2.below HB.out.size)⟩
        have hsm : ∀ y ∈ r, y.text = (⟨#[]⟩ : ByteArray) ∧ y.turn < (i : Int) + 1 := fun y hy => by
          obtain ⟨k, hk, _, _, h3, h4⟩ := HOF.out y hy
          exact ⟨h4, by omega⟩
        rcases (mem_insL (x := ⟨(i : Int), fi, ⟨#[]⟩, (i : Int) + 1⟩) hsm).1 hx with rfl | hx
        · exact ⟨i, by omega, rfl, hfe.symm, rfl, rfl⟩
        · obtain ⟨k, hk, h5⟩ := HOF.out x hx
          exact ⟨k, by omega, h5⟩
      clear hq2 hf2 HP HQ HB HOF
      go_wp2_with fail
      go_roundw
      case rel => exact ⟨i + 1, by omega, by go_num, HE2.out⟩
      case measure => simp [intOf]; omega
    · obtain rfl : i = n := by omega
      go_wp2_with fail
      obtain ⟨r0, mv0, v0, b0, S0, hq0, hof0, hb0⟩ := H.out
      obtain ⟨B, hB⟩ : ∃ B, B = wr.heap.size := ⟨_, rfl⟩
      obtain ⟨W0, hW0⟩ : ∃ W0, W0 = wr.alloc (.cells #[.int .i64 (-1), .int .i64 (-9223372036854775808)] 37) := ⟨_, rfl⟩
      have hbA : Below wr.heap.size wr W0 := by rw [hW0]; exact (Below.refl _ _).alloc (Nat.le_refl _) _
      have HS : Hid (∃ r mv v b S, Qu W0 w.heap.size w.heap.size r i mv v (i - 0) b S ∧ Of f i r ∧ Below w.heap.size w W0 ∧ W0.heap[B]? = some (.cells #[.int .i64 (-1), .int .i64 (-9223372036854775808)] 37 (0, 0)) ∧ ∀ x ∈ r, (-9223372036854775808 : Int) < x.rank ∨ ((-9223372036854775808 : Int) = x.rank ∧ (-1 : Int) < x.id)) := by
        refine ⟨r0, mv0, v0, b0, S0, hq0.on hbA, hof0, below_step hb0 hbA, by rw [hW0, hB]; exact heap_alloc_new _ _, fun x hx => ?_⟩
        have h1 := (hq0.wf x hx).2.2.2
        obtain ⟨k, hk, e, _⟩ := hof0 x hx
        unfold inI at h1
        omega
      have hBw : w.heap.size ≤ B := by rw [hB]; exact hb0.size
      clear hq0 hof0 hb0 hbA H
      rw [← hB, ← hW0]
      clear hB hW0
      go_loopw [7] (fun iv wq => ∃ (j : Nat) (li lr : Int), j ≤ i ∧ iv = .int .i64 j ∧ Hid (∃ r mv v b S, Qu wq w.heap.size w.heap.size r i mv v (i - j) b S ∧ Of f i r ∧ Below w.heap.size w wq ∧ wq.heap[B]? = some (.cells #[.int .i64 li, .int .i64 lr] 37 (0, 0)) ∧ ∀ x ∈ r, lr < x.rank ∨ (lr = x.rank ∧ li < x.id))) (fun iv _ => i - (intOf iv).toNat)
      case atStart => exact ⟨0, -1, -9223372036854775808, Nat.zero_le _, rfl, HS.out⟩
      case round =>
        obtain ⟨j, li, lr, hj, rfl, H⟩ := hrel
        clear HS
        by_cases hlt : j < i
        · have hlt2 : (j : Int) < (i : Int) := by omega
          obtain ⟨r, mv, v, b, S, hq, hof, hb, hlast, hord⟩ := H.out
          obtain ⟨m, hm⟩ : ∃ m, i - j = m + 1 := ⟨i - j - 1, by omega⟩
          rw [hm] at hq
          obtain ⟨x, r', rfl⟩ : ∃ x r', r = x :: r' := by
            cases r with
            | nil => have := hq.len; simp at this
            | cons x r' => exact ⟨x, r', rfl⟩
          obtain ⟨k, hk, hxi, hxr, hxt, hxx⟩ := hof x (by simp)
          have hox := hord x (by simp)
          obtain ⟨g, o, rfl, hcell, hfi⟩ := (HI.out.on rfl hb) k (by omega)
          have HP := Lib.hid (pop_some hq)
          have HST := Lib.hid (And.intro hq (And.intro hof (And.intro hb (And.intro hlast hord))))
          obtain ⟨xi, xr, hxi', hxr'⟩ : ∃ xi xr, x.id = xi ∧ x.rank = xr := ⟨_, _, rfl, rfl⟩
          rw [hxi', hxr'] at HP
          clear hq hof hb hlast hord H
          go_wp2_with fail
          refine HP.out.mono ?_
          rintro e w2 ⟨rfl, ⟨mv2, v2, b2, S2, hq2⟩, hf2⟩
          obtain ⟨W3, hW3⟩ : ∃ W3, W3 = w2.alloc (.cells #[.int .i64 xi, .int .i64 xr] 37) := ⟨_, rfl⟩
          have hbA : Below w2.heap.size w2 W3 := by rw [hW3]; exact (Below.refl _ _).alloc (Nat.le_refl _) _
          have hb2 : Below w.heap.size w w2 := HST.out.2.2.1.trans (hf2.below HST.out.2.2.1.size)
          have hb3 : Below w.heap.size w W3 := below_step hb2 hbA
          have hl3 : W3.heap[B]? = some (.cells #[.int .i64 li, .int .i64 lr] 37 (0, 0)) := by
            have h1 := (hf2.keep _ _ _ _ HST.out.2.2.2.1 (by decide) (by decide) (by decide)).trans HST.out.2.2.2.1
            exact (hbA.block B (blk_lt h1)).trans h1
          have hx3 : W3.heap[w2.heap.size]? = some (.cells #[.int .i64 xi, .int .i64 xr] 37 (0, 0)) := by rw [hW3]; exact heap_alloc_new _ _
          have hBl : B < w2.heap.size := by
            have h1 := (hf2.keep _ _ _ _ HST.out.2.2.2.1 (by decide) (by decide) (by decide)).trans HST.out.2.2.2.1
            exact blk_lt h1
          have l0 := cell_of (o := 0) hl3 rfl
          have l1 := cell_of (o := 1) hl3 rfl
          have lf0 := frozen_of (o := 0) hl3
          have lf1 := frozen_of (o := 1) hl3
          have x0 := cell_of (o := 0) hx3 rfl
          have x1 := cell_of (o := 1) hx3 rfl
          obtain ⟨g', o', e', hc3, _⟩ := (HI.out.on rfl hb3) k (by omega)
          cases e'
          rw [← hxr, hxr'] at hc3
          have exi : xi = (k : Int) := by rw [← hxi']; exact hxi
          subst exi
          have HQ3 := Lib.hid (hq2.on hbA)
          have HB3 := Lib.hid hb3
          have HL3 := Lib.hid hl3
          have HW3 := Lib.hid hW3
          obtain ⟨X, hX⟩ : ∃ X, X = w2.heap.size := ⟨_, rfl⟩
          rw [← hX] at x0 x1
          have k1 : ((k : Int) < 0) = False := eq_false (by omega)
          have k1' : decide ((k : Int) < 0) = false := decide_eq_false (by omega)
          have k2 : decide ((i : Int) ≤ (k : Int)) = false := decide_eq_false (by omega)
          have k3 : decide (xr < lr) = false := decide_eq_false (by rw [hxr'] at hox; omega)
          have k4 : (xr != xr) = false := by simp
          have k5 : (k : Int) < (L : Int) := by omega
          clear hq2 hf2 hbA hb2 hb3 hl3 hx3 hW3 HP
          go_wp2_with fail
          rw [← HW3.out, ← hX]
          clear hX hBl
          have HREL : Hid (∀ q : Nat, Hid (∃ r mv v b S, Qu (((W3.drewN q).setCell ⟨B, 0, none⟩ (.int .i64 (k : Int))).setCell ⟨B, 1, none⟩ (.int .i64 xr)) w.heap.size w.heap.size r i mv v (i - (j + 1)) b S ∧ Of f i r ∧ Below w.heap.size w (((W3.drewN q).setCell ⟨B, 0, none⟩ (.int .i64 (k : Int))).setCell ⟨B, 1, none⟩ (.int .i64 xr)) ∧ (((W3.drewN q).setCell ⟨B, 0, none⟩ (.int .i64 (k : Int))).setCell ⟨B, 1, none⟩ (.int .i64 xr)).heap[B]? = some (.cells #[.int .i64 (k : Int), .int .i64 xr] 37 (0, 0)) ∧ ∀ x ∈ r, xr < x.rank ∨ (xr = x.rank ∧ (k : Int) < x.id))) := by
            intro q
            have e1 : i - (j + 1) = m := by omega
            rw [e1]
            refine ⟨r', _, _, _, _, qu_far (HQ3.out.on (below_drewN (Below.refl _ _) q)) HL3.out (by decide) (by decide) (by decide) (fun l hl => by rw [heap_far _ hl, heap_far _ hl]), fun y hy => HST.out.2.1 y (by simp [hy]), ?_, heap_set (o := 1) _ (heap_set (o := 0) _ HL3.out), fun y hy => ?_⟩
            · exact ((below_drewN HB3.out q).setCell hBw _).setCell hBw _
            · have h1 := (List.pairwise_cons.1 HST.out.1.srt).1 y hy
              obtain ⟨l, hl, y1, y2, y3, y4⟩ := HST.out.2.1 y (by simp [hy])
              rw [klt_text (by rw [hxx, y4]), hxr'] at h1
              rcases h1 with h1 | ⟨h1, h2⟩
              · exact .inl h1
              · exact .inr ⟨h1, by omega⟩
          rw [hxr', hxi'] at hox
          clear HST HQ3 HB3 HL3 HW3 hcell hfi
          rcases hox with hox | ⟨rfl, hox⟩
          · have k6 : (xr == lr) = false := beq_eq_false_iff_ne.2 (by omega)
            go_quiet (fail)
            go_wp2_with fail
            go_roundw
            case rel =>
              refine ⟨j + 1, (k : Int), xr, by omega, by go_num, ?_⟩
              exact HREL.out nq
            case measure => simp [intOf]; omega
          · have k6 : (lr == lr) = true := by simp
            have k7 : decide ((k : Int) < li) = false := decide_eq_false (by omega)
            go_quiet (fail)
            go_wp2_with fail
            go_roundw
            case rel =>
              refine ⟨j + 1, (k : Int), lr, by omega, by go_num, ?_⟩
              exact HREL.out nq
            case measure => simp [intOf]; omega
        · obtain rfl : j = i := by omega
          obtain ⟨r, mv, v, b, S, hq, hof, hb, hlast, hord⟩ := H.out
          rw [Nat.sub_self] at hq
          obtain rfl : r = [] := List.eq_nil_of_length_eq_zero hq.len
          have HP := Lib.hid (pop_none hq)
          have HB := Lib.hid hb
          clear hq hof hb hlast hord H
          go_wp2_with fail
          refine HP.out.mono ?_
          rintro e w2 ⟨rfl, hb2⟩
          have HB2 := Lib.hid (below_step HB.out hb2)
          clear hb2 HP HB
          unfold errE
          go_wp2_with fail
          have hbA : Below w2.heap.size w2 (w2.alloc (.cells #[.int .i64 0, .int .i64 0] 37)) := below_item w2
          have HN := Lib.hid (num11 8 (w2.alloc (.cells #[.int .i64 0, .int .i64 0] 37)) (HE.out.on (below_step HB2.out hbA)))
          have HBA := Lib.hid (below_step HB2.out hbA)
          clear hbA
          refine HN.out.mono ?_
          rintro e w3 ⟨rfl, hb3⟩
          have HB3 := Lib.hid (below_step HBA.out hb3)
          clear hb3 HN
          go_wp2_with fail
          refine (sure_ w3).mono ?_
          rintro e w4 ⟨rfl, hb4⟩
          have HB4 := Lib.hid (below_step HB3.out hb4)
          clear hb4
          go_wp2_with fail
          go_ret
          exact ⟨rfl, HB4.out⟩
end Go.Proofs.YtnkdhipeklphaaaDoor
