/- The document's Flush. -/
import Derived.Test.YtjnhcanohefjiaaGreatDoorRjRewind
namespace Go.Proofs.YtjnhcanohefjiaaGreatDoor
open Go.RowKit Go.Sort Go.Maps

theorem rwr_stop (a : Ar) (row : List Nat) (sf : Nat) (d : Dev) (i k : Nat) (h : (rwrS a row sf d i).2 ≠ 0) : rwrS a row sf d (i + k) = rwrS a row sf d i := by
  induction k with
  | zero => rfl
  | succ k ih =>
    show (if (rwrS a row sf d (i + k)).2 ≠ 0 then rwrS a row sf d (i + k) else _) = _
    rw [ih, if_pos h]
theorem rwr_bad {a : Ar} {row : List Nat} {sf : Nat} {d D : Dev} {k i n : Nat} (hs : sf < row.length) (hl : row.length ≤ 64 * n) (hi : i ≤ n) (h : rwrS a row sf d i = (D, k)) (hk : k ≠ 0) : wrtD a row sf d = D ∧ wrtE a row sf d = k := by
  have e := rwr_stop a row sf d i (n - i) (by rw [h]; exact hk)
  rw [show i + (n - i) = n by omega, rwr_eq a row sf d hs hl, h] at e
  unfold wrtD wrtE
  rw [e]
  simp [hk]
theorem rwr_good {a : Ar} {row : List Nat} {sf : Nat} {d D : Dev} (hok : okD d) (hp : d.pend = []) (hc : d.crashed = false) (hin : inJ d a) (hx : ∀ x ∈ row, x < 256) (hs : sf < row.length) (hl : row.length ≤ 64 * a.s.toNat) (h : rwrS a row sf d a.s.toNat = (D, 0)) : sErr D a.g = 0 ∧ wrtD a row sf d = syncD D a.g ∧ wrtE a row sf d = 0 := by
  have e := rwr_eq a row sf d hs hl
  rw [h] at e
  obtain ⟨c1, c2⟩ := cnt_le hs hl
  have hi := wrt_inv (f := sf / 64) hok hp hc hin hx (cntJ row sf) c2
  rw [← e] at hi
  have hin' : inJ D a := by
    have q := hi.wk.rs
    unfold inJ
    rw [q.1, q.2]; exact hin
  have hs' := sErr_zero hin' (hi.good rfl).1
  unfold wrtD wrtE
  rw [← e]
  simp [hs']
theorem rwr_skip1 {a : Ar} {row : List Nat} {sf : Nat} {d D : Dev} {i : Nat} (h : rwrS a row sf d i = (D, 0)) (hc : 64 * i + 63 < sf ∨ row.length ≤ 64 * i) : rwrS a row sf d (i + 1) = (D, 0) := by
  unfold rwrS
  rw [h, if_neg (by simp), if_pos hc]
theorem rwr_go1 {a : Ar} {row : List Nat} {sf : Nat} {d D : Dev} {i : Nat} (h : rwrS a row sf d i = (D, 0)) (hc : ¬ (64 * i + 63 < sf ∨ row.length ≤ 64 * i)) : rwrS a row sf d (i + 1) = (writeD D (atJ a i) (partJ row i), wErr D (atJ a i) (partJ row i).length) := by
  unfold rwrS
  rw [h, if_neg (by simp), if_neg hc]
theorem bs_part (row : List Nat) (i : Nat) (m : Nat) (hm : m = min (64 * i + 64) row.length) (h : 64 * i < row.length) : (bs row).extract (64 * i) m = bs (partJ row i) := by
  have e1 : (bs row).extract (64 * i) m = ((bs row).extract 0 m).extract (64 * i) m := by
    apply ByteArray.ext
    apply Array.ext_getElem?
    intro j
    simp only [ByteArray.data_extract, Array.getElem?_extract]
    have hz : (bs row).data.size = row.length := bs_size row
    simp only [Array.size_extract, hz]
    have hm2 : m ≤ row.length := by omega
    by_cases hj : j < m - 64 * i
    · rw [if_pos (by omega), if_pos (by omega), if_pos (by omega)]
      congr 1
      omega
    · rw [if_neg (by omega), if_neg (by omega)]
  rw [e1, bs_take]
  have hl : (row.take m).length = m := by rw [List.length_take]; omega
  have e2 := bs_drop (row.take m) (64 * i)
  rw [bs_size, hl] at e2
  rw [e2]
  congr 1
  unfold partJ
  rw [List.drop_take]
  by_cases h2 : 64 * i + 64 ≤ row.length
  · rw [show m - 64 * i = 64 by omega]
  · rw [show m - 64 * i = row.length - 64 * i by omega, List.take_of_length_le (by rw [List.length_drop]; exact Nat.le_refl _), List.take_of_length_le (by rw [List.length_drop]; omega)]
set_option maxRecDepth 100000 in
set_option maxHeartbeats 4000000 in
theorem rflush_dead {w : World} {d : Dev} {x : RD} {al ea : Option Addr} {cl ec : Nat} {J : Jr} {M : Nat → Prop} (hs : RSt w d x al cl) (hEd : EdF w M ea ec J.ends) (hd : J.dead ≠ 0) :
    Calls Tryz.prog 36 #[rjV J ea ec, rdV x al cl] w (RjdTo w M (flushD d J) (flushJ d J) (flushE d J)) := by
  have e1 : flushE d J = J.dead := if_pos hd
  have e2 : flushD d J = d := if_pos hd
  have e3 : flushJ d J = J := if_pos hd
  rw [e1, e2, e3]
  clear e1 e2 e3

  have HF : Hid (∀ V', Below w.heap.size w V' → RjdTo w M d J J.dead (.returned (.tuple #[rjV J ea ec, rdV x al cl, .int .i64 (J.dead : Nat)])) V') := fun V' hb => rjd_same hs hEd hb
  clear hs hEd
  unfold rjV rdV rdC at *

  obtain ⟨W, hW⟩ : ∃ W, W = (((w.alloc (.cells #[.int .i64 J.a.g, .int .i64 J.a.f, .int .i64 J.a.s, .int .u64 J.ep, .string (bs J.row), .slice ea J.ends.length ec, .int .i64 (J.upto J.sf : Nat), .int .i64 (J.pss.length - J.sf : Nat), .int .i64 (J.dead : Nat)] 43)).alloc (.cells #[.int .i64 x.r, .int .i64 x.s, .slice al x.l.length cl, .bool x.crashed, .bool x.armed, .int .i64 x.left] 33)).alloc (.cells #[.int .i64 0, .int .i64 0, .int .i64 0, .int .u64 0, .string ⟨#[]⟩, .slice none 0 0, .int .i64 0, .int .i64 0, .int .i64 0] 43)).alloc (.cells #[.int .i64 0, .int .i64 0, .slice none 0 0, .bool false, .bool false, .int .i64 0] 33) := ⟨_, rfl⟩
  have hWf := four_at w (.cells #[.int .i64 J.a.g, .int .i64 J.a.f, .int .i64 J.a.s, .int .u64 J.ep, .string (bs J.row), .slice ea J.ends.length ec, .int .i64 (J.upto J.sf : Nat), .int .i64 (J.pss.length - J.sf : Nat), .int .i64 (J.dead : Nat)] 43) (.cells #[.int .i64 x.r, .int .i64 x.s, .slice al x.l.length cl, .bool x.crashed, .bool x.armed, .int .i64 x.left] 33) (.cells #[.int .i64 0, .int .i64 0, .int .i64 0, .int .u64 0, .string ⟨#[]⟩, .slice none 0 0, .int .i64 0, .int .i64 0, .int .i64 0] 43) (.cells #[.int .i64 0, .int .i64 0, .slice none 0 0, .bool false, .bool false, .int .i64 0] 33)
  rw [← hW] at hWf
  obtain ⟨q1, q2, q3, q4, q5⟩ := hWf
  have HX : Hid (Four w W #[.int .i64 J.a.g, .int .i64 J.a.f, .int .i64 J.a.s, .int .u64 J.ep, .string (bs J.row), .slice ea J.ends.length ec, .int .i64 (J.upto J.sf : Nat), .int .i64 (J.pss.length - J.sf : Nat), .int .i64 (J.dead : Nat)] #[.int .i64 x.r, .int .i64 x.s, .slice al x.l.length cl, .bool x.crashed, .bool x.armed, .int .i64 x.left]) := ⟨q1, q2, q3, q4, q5⟩
  have HW := Lib.hid hW
  clear hW q1 q2 q3 q4 q5

  generalize J.a.g = g at *
  generalize J.a.f = f at *
  generalize J.a.s = s at *
  generalize J.ep = ep at *
  generalize bs J.row = RR at *
  generalize J.ends.length = en at *
  generalize J.upto J.sf = sf at *
  generalize J.pss.length - J.sf = wt at *
  generalize J.dead = dd at *

  generalize x.l.length = L1 at *
  generalize x.r = r at *
  generalize x.s = s9 at *
  generalize x.crashed = cr at *
  generalize x.armed = ar at *
  generalize x.left = lf at *

  have hd1 : ((dd : Int) == 0) = false := by simpa using hd

  obtain ⟨y0, y1, y2, y3, y4, y5, y6, y7, y8⟩ := rj_cells HX.out.j
  have GL : Hid (∀ V, Two (w.heap.size + 1 + 1) (w.heap.size + 1 + 1 + 1) W V → (Instr.loadAt 43 (.pointer (some ⟨w.heap.size, 0, none⟩))).run Tryz.prog V = .ok (.agg #[.int .i64 g, .int .i64 f, .int .i64 s, .int .u64 ep, .string RR, .slice ea en ec, .int .i64 (sf : Nat), .int .i64 (wt : Nat), .int .i64 (dd : Nat)]) V) := fun V hV => load_rj (hV.at HX.out.j (by omega) (by omega)) rfl
  have GD : Hid (∀ V, Two (w.heap.size + 1 + 1) (w.heap.size + 1 + 1 + 1) W V → (Instr.loadAt 33 (.pointer (some ⟨w.heap.size + 1, 0, none⟩))).run Tryz.prog V = .ok (.agg #[.int .i64 r, .int .i64 s9, .slice al L1 cl, .bool cr, .bool ar, .int .i64 lf]) V) := fun V hV => load_rd (hV.at HX.out.d (by omega) (by omega)) rfl
  have G8 : Hid (∀ V, Two (w.heap.size + 1 + 1) (w.heap.size + 1 + 1 + 1) W V → V.cell? ⟨w.heap.size, 8, none⟩ = some (.int .i64 (dd : Nat))) := fun V hV => cell_of (hV.at HX.out.j (by omega) (by omega)) rfl

  obtain ⟨V1, hs1, hp1⟩ := put_rj (w := W.drew) (cs := #[.int .i64 g, .int .i64 f, .int .i64 s, .int .u64 ep, .string RR, .slice ea en ec, .int .i64 (sf : Nat), .int .i64 (wt : Nat), .int .i64 (dd : Nat)]) HX.out.oj rfl rfl (rj_one _ _ _ _ _ _ _ _ _ _ _)
  obtain ⟨V2, hs2, hp2⟩ := put_rd (w := V1) (cs := #[.int .i64 r, .int .i64 s9, .slice al L1 cl, .bool cr, .bool ar, .int .i64 lf]) ((hp1.far _ (by omega)).trans HX.out.od) rfl rfl (six_one _ _ _ _ _ _ _ _)
  have hS1 : Two (w.heap.size + 1 + 1) (w.heap.size + 1 + 1 + 1) W V1 := (Two.drew _ _ _).put hp1 (.inl rfl)
  have hS2 : Two (w.heap.size + 1 + 1) (w.heap.size + 1 + 1 + 1) W V2 := hS1.put hp2 (.inr rfl)
  have hBv : Below w.heap.size w V2 := hS2.below HX.out.bw HX.out.bw.size (by omega) (by omega)
  have HE := Lib.hid (And.intro ((hp2.far _ (by omega)).trans hp1.blk : V2.heap[w.heap.size + 1 + 1]? = some (.cells #[.int .i64 g, .int .i64 f, .int .i64 s, .int .u64 ep, .string RR, .slice ea en ec, .int .i64 (sf : Nat), .int .i64 (wt : Nat), .int .i64 (dd : Nat)] 43 (0, 0))) (And.intro hp2.blk (HF.out V2 hBv)))
  clear hp1 hp2 hBv

  clear HF
  go_enter Tryz.func36, Tryz.ntmps36
  go_wp2_with fail
  rw [← HW.out]
  go_wp2_with fail
  refine wp_region_noPanic ?_
  refine wp_region_held_drew (S := fun V => Two (w.heap.size + 1 + 1) (w.heap.size + 1 + 1 + 1) W V) (by kernel_rfl) (Two.drew _ _ _) (fun hHeld => ?_)
  refine tk 0 (.agg #[.int .i64 g, .int .i64 f, .int .i64 s, .int .u64 ep, .string RR, .slice ea en ec, .int .i64 (sf : Nat), .int .i64 (wt : Nat), .int .i64 (dd : Nat)]) (hy := (yields_load (by rfl) 43 _ (by rfl) _ _ (by rfl) (GL.out))) (h := ?_)
  refine tk 1 (.agg #[.int .i64 r, .int .i64 s9, .slice al L1 cl, .bool cr, .bool ar, .int .i64 lf]) (hy := (yields_load (by rfl) 33 _ (by rfl) _ _ (by rfl) (GD.out))) (h := ?_)
  refine tk 2 (.pointer (some ⟨w.heap.size, 8, none⟩)) (h := ?_)
  refine take_at 3 (.int .i64 (dd : Nat)) rfl (by kernel_rfl) (by kernel_rfl) (by kernel_rfl) (fun _ _ _ h => h) (Or.inl ⟨by rfl, ?_⟩) (by assumption) ?_
  · intro V hSV; have e0 := G8.out V hSV; go_simp
  simp only [Act.put, List.setIfInBounds_toArray, List.set_cons_zero, List.set_cons_succ]

  refine ready_store 4 rfl (by kernel_rfl) (by rfl) 43 _ _ (by rfl) _ _ (by rfl) (by rfl) hs1 hS1 ?_
  refine ready_store 5 rfl (by kernel_rfl) (by rfl) 33 _ _ (by rfl) _ _ (by rfl) (by rfl) hs2 hS2 ?_
  refine tk 6 (.int .i64 (dd : Nat)) (h := ?_)
  refine wpAnyH_done (by kernel_rfl) ?_ _
  refine NoPanic.normal ?_
  go_wp2_with fail
  exact bodyPost_ret (results_jd rfl _ _ (w.heap.size + 1 + 1) (w.heap.size + 1 + 1 + 1) _ _ (.int .i64 (dd : Nat)) rfl rfl rfl HE.out.1 rfl HE.out.2.1 rfl) rfl HE.out.2.2
set_option maxRecDepth 100000 in
set_option maxHeartbeats 4000000 in
theorem rflush_none {w : World} {d : Dev} {x : RD} {al ea : Option Addr} {cl ec : Nat} {J : Jr} {M : Nat → Prop} (hs : RSt w d x al cl) (hEd : EdF w M ea ec J.ends) (hd : J.dead = 0) (hn : J.sf = J.pss.length) :
    Calls Tryz.prog 36 #[rjV J ea ec, rdV x al cl] w (RjdTo w M (flushD d J) (flushJ d J) (flushE d J)) := by
  obtain ⟨e2, e3, e1⟩ := flush_none (d := d) hn
  rw [e1, e2, e3]
  have hw0 : J.pss.length - J.sf = 0 := by omega
  clear e1 e2 e3 hn

  have HF : Hid (∀ V', Below w.heap.size w V' → RjdTo w M d J J.dead (.returned (.tuple #[rjV J ea ec, rdV x al cl, .int .i64 (J.dead : Nat)])) V') := fun V' hb => rjd_same hs hEd hb
  clear hs hEd
  unfold rjV rdV rdC at *

  have hdz : ((J.dead : Nat) : Int) = 0 := by rw [hd]; rfl
  have hwz : ((J.pss.length - J.sf : Nat) : Int) = 0 := by rw [hw0]; rfl
  simp only [hdz, hwz] at HF ⊢

  obtain ⟨W, hW⟩ : ∃ W, W = (((w.alloc (.cells #[.int .i64 J.a.g, .int .i64 J.a.f, .int .i64 J.a.s, .int .u64 J.ep, .string (bs J.row), .slice ea J.ends.length ec, .int .i64 (J.upto J.sf : Nat), .int .i64 0, .int .i64 0] 43)).alloc (.cells #[.int .i64 x.r, .int .i64 x.s, .slice al x.l.length cl, .bool x.crashed, .bool x.armed, .int .i64 x.left] 33)).alloc (.cells #[.int .i64 0, .int .i64 0, .int .i64 0, .int .u64 0, .string ⟨#[]⟩, .slice none 0 0, .int .i64 0, .int .i64 0, .int .i64 0] 43)).alloc (.cells #[.int .i64 0, .int .i64 0, .slice none 0 0, .bool false, .bool false, .int .i64 0] 33) := ⟨_, rfl⟩
  have hWf := four_at w (.cells #[.int .i64 J.a.g, .int .i64 J.a.f, .int .i64 J.a.s, .int .u64 J.ep, .string (bs J.row), .slice ea J.ends.length ec, .int .i64 (J.upto J.sf : Nat), .int .i64 0, .int .i64 0] 43) (.cells #[.int .i64 x.r, .int .i64 x.s, .slice al x.l.length cl, .bool x.crashed, .bool x.armed, .int .i64 x.left] 33) (.cells #[.int .i64 0, .int .i64 0, .int .i64 0, .int .u64 0, .string ⟨#[]⟩, .slice none 0 0, .int .i64 0, .int .i64 0, .int .i64 0] 43) (.cells #[.int .i64 0, .int .i64 0, .slice none 0 0, .bool false, .bool false, .int .i64 0] 33)
  rw [← hW] at hWf
  obtain ⟨q1, q2, q3, q4, q5⟩ := hWf
  have HX : Hid (Four w W #[.int .i64 J.a.g, .int .i64 J.a.f, .int .i64 J.a.s, .int .u64 J.ep, .string (bs J.row), .slice ea J.ends.length ec, .int .i64 (J.upto J.sf : Nat), .int .i64 0, .int .i64 0] #[.int .i64 x.r, .int .i64 x.s, .slice al x.l.length cl, .bool x.crashed, .bool x.armed, .int .i64 x.left]) := ⟨q1, q2, q3, q4, q5⟩
  have HW := Lib.hid hW
  clear hW q1 q2 q3 q4 q5

  generalize J.a.g = g at *
  generalize J.a.f = f at *
  generalize J.a.s = s at *
  generalize J.ep = ep at *
  generalize bs J.row = RR at *
  generalize J.ends.length = en at *
  generalize J.upto J.sf = sf at *
  generalize J.pss.length - J.sf = wt at *
  generalize J.dead = dd at *

  generalize x.l.length = L1 at *
  generalize x.r = r at *
  generalize x.s = s9 at *
  generalize x.crashed = cr at *
  generalize x.armed = ar at *
  generalize x.left = lf at *

  clear hd hw0 hdz hwz

  obtain ⟨y0, y1, y2, y3, y4, y5, y6, y7, y8⟩ := rj_cells0 HX.out.j
  have GL : Hid (∀ V, Two (w.heap.size + 1 + 1) (w.heap.size + 1 + 1 + 1) W V → (Instr.loadAt 43 (.pointer (some ⟨w.heap.size, 0, none⟩))).run Tryz.prog V = .ok (.agg #[.int .i64 g, .int .i64 f, .int .i64 s, .int .u64 ep, .string RR, .slice ea en ec, .int .i64 (sf : Nat), .int .i64 0, .int .i64 0]) V) := fun V hV => load_rj (hV.at HX.out.j (by omega) (by omega)) rfl
  have GD : Hid (∀ V, Two (w.heap.size + 1 + 1) (w.heap.size + 1 + 1 + 1) W V → (Instr.loadAt 33 (.pointer (some ⟨w.heap.size + 1, 0, none⟩))).run Tryz.prog V = .ok (.agg #[.int .i64 r, .int .i64 s9, .slice al L1 cl, .bool cr, .bool ar, .int .i64 lf]) V) := fun V hV => load_rd (hV.at HX.out.d (by omega) (by omega)) rfl
  have G8 : Hid (∀ V, Two (w.heap.size + 1 + 1) (w.heap.size + 1 + 1 + 1) W V → V.cell? ⟨w.heap.size, 8, none⟩ = some (.int .i64 0)) := fun V hV => cell_of (hV.at HX.out.j (by omega) (by omega)) rfl

  obtain ⟨V1, hs1, hp1⟩ := put_rj (w := W.drew) (cs := #[.int .i64 g, .int .i64 f, .int .i64 s, .int .u64 ep, .string RR, .slice ea en ec, .int .i64 (sf : Nat), .int .i64 0, .int .i64 0]) HX.out.oj rfl rfl (rj_one _ _ _ _ _ _ _ _ _ _ _)
  obtain ⟨V2, hs2, hp2⟩ := put_rd (w := V1) (cs := #[.int .i64 r, .int .i64 s9, .slice al L1 cl, .bool cr, .bool ar, .int .i64 lf]) ((hp1.far _ (by omega)).trans HX.out.od) rfl rfl (six_one _ _ _ _ _ _ _ _)
  have hS1 : Two (w.heap.size + 1 + 1) (w.heap.size + 1 + 1 + 1) W V1 := (Two.drew _ _ _).put hp1 (.inl rfl)
  have hS2 : Two (w.heap.size + 1 + 1) (w.heap.size + 1 + 1 + 1) W V2 := hS1.put hp2 (.inr rfl)
  have hBv : Below w.heap.size w V2 := hS2.below HX.out.bw HX.out.bw.size (by omega) (by omega)
  have HE := Lib.hid (And.intro ((hp2.far _ (by omega)).trans hp1.blk : V2.heap[w.heap.size + 1 + 1]? = some (.cells #[.int .i64 g, .int .i64 f, .int .i64 s, .int .u64 ep, .string RR, .slice ea en ec, .int .i64 (sf : Nat), .int .i64 0, .int .i64 0] 43 (0, 0))) (And.intro hp2.blk (HF.out V2 hBv)))
  clear hp1 hp2 hBv

  clear HF
  go_enter Tryz.func36, Tryz.ntmps36
  go_wp2_with fail
  rw [← HW.out]
  go_wp2_with fail
  refine wp_region_noPanic ?_
  refine wp_region_held_drew (S := fun V => Two (w.heap.size + 1 + 1) (w.heap.size + 1 + 1 + 1) W V) (by kernel_rfl) (Two.drew _ _ _) (fun hHeld => ?_)
  refine tk 0 (.agg #[.int .i64 g, .int .i64 f, .int .i64 s, .int .u64 ep, .string RR, .slice ea en ec, .int .i64 (sf : Nat), .int .i64 0, .int .i64 0]) (hy := (yields_load (by rfl) 43 _ (by rfl) _ _ (by rfl) (GL.out))) (h := ?_)
  refine tk 1 (.agg #[.int .i64 r, .int .i64 s9, .slice al L1 cl, .bool cr, .bool ar, .int .i64 lf]) (hy := (yields_load (by rfl) 33 _ (by rfl) _ _ (by rfl) (GD.out))) (h := ?_)
  refine tk 2 (.pointer (some ⟨w.heap.size, 8, none⟩)) (h := ?_)
  refine take_at 3 (.int .i64 0) rfl (by kernel_rfl) (by kernel_rfl) (by kernel_rfl) (fun _ _ _ h => h) (Or.inl ⟨by rfl, ?_⟩) (by assumption) ?_
  · intro V hSV; have e0 := G8.out V hSV; go_simp
  simp only [Act.put, List.setIfInBounds_toArray, List.set_cons_zero, List.set_cons_succ]

  refine ready_store 4 rfl (by kernel_rfl) (by rfl) 43 _ _ (by rfl) _ _ (by rfl) (by rfl) hs1 hS1 ?_
  refine ready_store 5 rfl (by kernel_rfl) (by rfl) 33 _ _ (by rfl) _ _ (by rfl) (by rfl) hs2 hS2 ?_
  refine tk 6 (.int .i64 0) (h := ?_)
  refine wpAnyH_done (by kernel_rfl) ?_ _
  refine NoPanic.normal ?_
  go_wp2_with fail
  exact bodyPost_ret (results_jd rfl _ _ (w.heap.size + 1 + 1) (w.heap.size + 1 + 1 + 1) _ _ (.int .i64 0) rfl rfl rfl HE.out.1 rfl HE.out.2.1 rfl) rfl HE.out.2.2
/-- The loop under way. -/
structure RfI (w : World) (j : Array Value) (wr : World) (D : Dev) (x : RD) (al : Option Addr) (cl : Nat) : Prop where
  tie : Tie D x
  ls : LstS wr al cl x.l
  rs : D.r = 2 ∧ D.s = 12
  lf : 0 ≤ D.left ∧ D.left ≤ 9223372036854775807
  four : Four w wr j (rdC x al x.l.length cl)
set_option maxRecDepth 100000 in
set_option maxHeartbeats 8000000 in
theorem rflush_ok {w : World} {d : Dev} {x : RD} {al ea : Option Addr} {cl ec : Nat} {J : Jr} {M : Nat → Prop} (hs : RSt w d x al cl) (hEd : EdF w M ea ec J.ends) (hok : okJ J) (hc : Calm d J) (hne : J.sf ≠ J.pss.length) :
    Calls Tryz.prog 36 #[rjV J ea ec, rdV x al cl] w (RjdTo w M (flushD d J) (flushJ d J) (flushE d J)) := by
  have hd := hc.alive
  obtain ⟨e2, e1, e3⟩ := flush_some (d := d) hd hne
  rw [e1, e2, e3]
  have hsf := hok.sf
  have hlt := upto_lt (J := J) (n := J.sf) (by omega)
  have hrl := hok.row_le
  have hlen := hok.len
  obtain ⟨n, hn⟩ : ∃ n, n = J.a.s.toNat := ⟨_, rfl⟩
  obtain ⟨i1, i2, i3, i4, i5, i6⟩ := hc.inn
  rw [hs.rs.1] at i2
  rw [hs.rs.2] at i5 i6
  have hsn : J.a.s = (n : Int) := by omega
  have hn1 : 1 ≤ n ∧ n ≤ 12 := by omega
  have hwt : ((J.pss.length - J.sf : Nat) : Int) ≠ 0 := by omega
  have HBad : Hid (∀ (i : Nat) (D : Dev) (k : Nat), i ≤ n → rwrS J.a J.row (J.upto J.sf) d i = (D, k) → k ≠ 0 → wrtD J.a J.row (J.upto J.sf) d = D ∧ wrtE J.a J.row (J.upto J.sf) d = k) := fun i D k hi h hk => rwr_bad hlt (n := n) (by rw [hn]; exact hlen) hi h hk
  have HGood : Hid (∀ D, rwrS J.a J.row (J.upto J.sf) d n = (D, 0) → sErr D J.a.g = 0 ∧ wrtD J.a J.row (J.upto J.sf) d = syncD D J.a.g ∧ wrtE J.a J.row (J.upto J.sf) d = 0) := fun D h => rwr_good hs.ok hc.pend hc.cr hc.inn hok.byte hlt hlen (by rw [← hn]; exact h)
  have HByte := Lib.hid hok.byte
  have HFd : Hid (∀ (V' : World) (E : Nat), E ≠ 0 → ∀ x' a' c', LstS V' a' c' x'.l → Tie (wrtD J.a J.row (J.upto J.sf) d) x' → wrtE J.a J.row (J.upto J.sf) d = E → Below w.heap.size w V' → RjdTo w M (wrtD J.a J.row (J.upto J.sf) d) (if wrtE J.a J.row (J.upto J.sf) d = 0 then { J with sf := J.pss.length } else { J with dead := wrtE J.a J.row (J.upto J.sf) d }) (wrtE J.a J.row (J.upto J.sf) d) (.returned (.tuple #[.agg #[.int .i64 J.a.g, .int .i64 J.a.f, .int .i64 J.a.s, .int .u64 J.ep, .string (bs J.row), .slice ea J.ends.length ec, .int .i64 (J.upto J.sf : Nat), .int .i64 (J.pss.length - J.sf : Nat), .int .i64 (E : Nat)], rdV x' a' c', .int .i64 (E : Nat)])) V') := fun V' E hE x' a' c' hl ht he hb => by
    rw [he, if_neg hE]
    exact ⟨x', a', c', ea, ec, rfl, hl, ht, hEd.on hb, hb⟩
  have HFg : Hid (∀ (V' : World) x' a' c', LstS V' a' c' x'.l → Tie (wrtD J.a J.row (J.upto J.sf) d) x' → wrtE J.a J.row (J.upto J.sf) d = 0 → Below w.heap.size w V' → RjdTo w M (wrtD J.a J.row (J.upto J.sf) d) (if wrtE J.a J.row (J.upto J.sf) d = 0 then { J with sf := J.pss.length } else { J with dead := wrtE J.a J.row (J.upto J.sf) d }) (wrtE J.a J.row (J.upto J.sf) d) (.returned (.tuple #[.agg #[.int .i64 J.a.g, .int .i64 J.a.f, .int .i64 J.a.s, .int .u64 J.ep, .string (bs J.row), .slice ea J.ends.length ec, .int .i64 (J.row.length : Nat), .int .i64 0, .int .i64 (J.dead : Nat)], rdV x' a' c', .int .i64 0])) V') := fun V' x' a' c' hl ht he hb => by
    rw [he, if_pos rfl]
    refine ⟨x', a', c', ea, ec, ?_, hl, ht, hEd.on hb, hb⟩
    have q1 : J.upto J.pss.length = J.row.length := upto_all J
    have q2 : J.pss.length - J.pss.length = 0 := by omega
    unfold rjV
    show _ = Ending.returned (.tuple #[.agg #[.int .i64 J.a.g, .int .i64 J.a.f, .int .i64 J.a.s, .int .u64 J.ep, .string (bs J.row), .slice ea J.ends.length ec, .int .i64 (J.upto J.pss.length : Nat), .int .i64 (J.pss.length - J.pss.length : Nat), .int .i64 (J.dead : Nat)], rdV x' a' c', .int .i64 0])
    rw [q1, q2]; rfl
  have hsz : (bs J.row).size = J.row.length := bs_size _
  have HPs : Hid (∀ i m, m = min (64 * i + 64) J.row.length → 64 * i < J.row.length → (bs J.row).extract (64 * i) m = bs (partJ J.row i)) := fun i m hm h => bs_part J.row i m hm h
  have H0 : Hid (rwrS J.a J.row (J.upto J.sf) d 0 = (d, 0)) := rfl
  have HS := Lib.hid hs
  clear e1 e2 e3 hs hEd hok hc hlen hn hne hsf
  unfold rjV
  unfold rdV rdC at HFd HFg ⊢
  have hdz : ((J.dead : Nat) : Int) = 0 := by rw [hd]; rfl
  simp only [hdz] at HFg ⊢

  obtain ⟨W, hW⟩ : ∃ W, W = (((w.alloc (.cells #[.int .i64 J.a.g, .int .i64 J.a.f, .int .i64 J.a.s, .int .u64 J.ep, .string (bs J.row), .slice ea J.ends.length ec, .int .i64 (J.upto J.sf : Nat), .int .i64 (J.pss.length - J.sf : Nat), .int .i64 0] 43)).alloc (.cells #[.int .i64 x.r, .int .i64 x.s, .slice al x.l.length cl, .bool x.crashed, .bool x.armed, .int .i64 x.left] 33)).alloc (.cells #[.int .i64 0, .int .i64 0, .int .i64 0, .int .u64 0, .string ⟨#[]⟩, .slice none 0 0, .int .i64 0, .int .i64 0, .int .i64 0] 43)).alloc (.cells #[.int .i64 0, .int .i64 0, .slice none 0 0, .bool false, .bool false, .int .i64 0] 33) := ⟨_, rfl⟩
  have hWf := four_at w (.cells #[.int .i64 J.a.g, .int .i64 J.a.f, .int .i64 J.a.s, .int .u64 J.ep, .string (bs J.row), .slice ea J.ends.length ec, .int .i64 (J.upto J.sf : Nat), .int .i64 (J.pss.length - J.sf : Nat), .int .i64 0] 43) (.cells #[.int .i64 x.r, .int .i64 x.s, .slice al x.l.length cl, .bool x.crashed, .bool x.armed, .int .i64 x.left] 33) (.cells #[.int .i64 0, .int .i64 0, .int .i64 0, .int .u64 0, .string ⟨#[]⟩, .slice none 0 0, .int .i64 0, .int .i64 0, .int .i64 0] 43) (.cells #[.int .i64 0, .int .i64 0, .slice none 0 0, .bool false, .bool false, .int .i64 0] 33)
  rw [← hW] at hWf
  obtain ⟨q1, q2, q3, q4, q5⟩ := hWf
  have HX : Hid (Four w W #[.int .i64 J.a.g, .int .i64 J.a.f, .int .i64 J.a.s, .int .u64 J.ep, .string (bs J.row), .slice ea J.ends.length ec, .int .i64 (J.upto J.sf : Nat), .int .i64 (J.pss.length - J.sf : Nat), .int .i64 0] #[.int .i64 x.r, .int .i64 x.s, .slice al x.l.length cl, .bool x.crashed, .bool x.armed, .int .i64 x.left]) := ⟨q1, q2, q3, q4, q5⟩
  have HW := Lib.hid hW
  clear hW q1 q2 q3 q4 q5

  have H1 : Hid (RfI w #[.int .i64 J.a.g, .int .i64 J.a.f, .int .i64 J.a.s, .int .u64 J.ep, .string (bs J.row), .slice ea J.ends.length ec, .int .i64 (J.upto J.sf : Nat), .int .i64 (J.pss.length - J.sf : Nat), .int .i64 0] W d x al cl) := ⟨HS.out.tie, HS.out.ls.on HX.out.bw, HS.out.rs, HS.out.lf, HX.out⟩
  generalize hJD : (fun k => if k = 0 then ({ J with sf := J.pss.length } : Jr) else { J with dead := k }) = JD at *
  have hJ2 : ∀ k, (if k = 0 then ({ J with sf := J.pss.length } : Jr) else { J with dead := k }) = JD k := fun k => by rw [← hJD]
  simp only [hJ2] at HFd HFg ⊢
  clear hJ2 hJD HS HX
  obtain ⟨⟨g, f, s⟩, ep0, pss0, sf0, dd0⟩ := J
  dsimp only at *
  subst hsn
  generalize hrow : Jr.row ⟨⟨g, f, (n : Int)⟩, ep0, pss0, sf0, dd0⟩ = row at *
  generalize Jr.ends ⟨⟨g, f, (n : Int)⟩, ep0, pss0, sf0, dd0⟩ = es at *
  generalize es.length = en at *
  generalize Jr.upto ⟨⟨g, f, (n : Int)⟩, ep0, pss0, sf0, dd0⟩ sf0 = sf at *
  generalize pss0.length - sf0 = wt at *
  generalize hRR : bs row = RR at *
  generalize hL : row.length = L at *
  have HRL := Lib.hid hL
  clear hrow hRR hL
  have hw1 : ((wt : Int) == 0) = false := by simpa using hwt
  clear hd hwt hdz
  go_enter Tryz.func36, Tryz.ntmps36
  go_wp2_with fail
  rw [← HW.out]
  clear HW
  go_loopw [7] (fun iv wr => ∃ (i : Nat) (D : Dev) (x : RD) (al : Option Addr) (cl : Nat), iv = .int .i64 i ∧ i ≤ n ∧ Hid (rwrS ⟨g, f, (n : Int)⟩ row sf d i = (D, 0)) ∧ Hid (RfI w #[.int .i64 g, .int .i64 f, .int .i64 (n : Int), .int .u64 ep0, .string RR, .slice ea en ec, .int .i64 (sf : Nat), .int .i64 (wt : Nat), .int .i64 0] wr D x al cl)) (fun iv _ => n - (intOf iv).toNat)
  case atStart => exact ⟨0, d, x, al, cl, rfl, Nat.zero_le _, H0, H1⟩
  case round =>
    clear H0 H1
    obtain ⟨i, D, x, al, cl, rfl, hin, HC, HI⟩ := hrel
    obtain ⟨y0, y1, y2, y3, y4, y5, y6, y7, y8⟩ := rj_cells0 HI.out.four.j
    have hlen := tie_len HI.out.tie HI.out.rs
    by_cases hlt2 : i < n
    · have hlt3 : (i : Int) < (n : Int) := by omega
      have wm := wraps_i64 (64 * (i : Int)) (by omega) (by omega)
      have wm2 := wraps_i64 (64 * (i : Int) + 63) (by omega) (by omega)
      by_cases c1 : 64 * i + 63 < sf
      · have c1' : 64 * (i : Int) + 63 < (sf : Int) := by omega
        have HN := Lib.hid (rwr_skip1 HC.out (.inl c1))
        go_wp2_with fail
        go_roundw
        case rel => exact ⟨i + 1, D, x, al, cl, by go_num, by omega, HN, HI⟩
        case measure => simp [intOf]; omega
      · have c1' : ¬ 64 * (i : Int) + 63 < (sf : Int) := by omega
        by_cases c2 : L ≤ 64 * i
        · have c2' : 64 * (i : Int) ≥ (L : Int) := by omega
          have HN := Lib.hid (rwr_skip1 HC.out (.inr (by rw [HRL.out]; exact c2)))
          go_wp2_with fail
          go_roundw
          case rel => exact ⟨i + 1, D, x, al, cl, by go_num, by omega, HN, HI⟩
          case measure => simp [intOf]; omega
        · have c2' : ¬ 64 * (i : Int) ≥ (L : Int) := by omega
          have HN := Lib.hid (rwr_go1 HC.out (by rw [HRL.out]; omega))
          obtain ⟨m, hm⟩ : ∃ m, m = min (64 * i + 64) L := ⟨_, rfl⟩
          have hps := HPs.out i m hm (by omega)
          have hmn : min (64 * (i : Int) + 64) (L : Int) = (m : Int) := by omega
          have hmn2 : (if (L : Int) < 64 * (i : Int) + 64 then (L : Int) else 64 * (i : Int) + 64) = (m : Int) := by split <;> omega
          have wm3 := wraps_i64 (64 * (i : Int) + 64) (by omega) (by omega)
          have wfi := wraps_i64 (f + (i : Int)) (by omega) (by omega)
          have t1 : (64 * (i : Int)).toNat = 64 * i := by omega
          have o1 : decide (64 * (i : Int) ≤ (m : Int)) = true := decide_eq_true (by omega)
          have o2 : decide ((m : Int) ≤ (L : Int)) = true := decide_eq_true (by omega)
          have o3 : 64 * i ≤ m := by omega
          have o5 : (0 : Int) ≤ 64 * (i : Int) := by omega
          have o6 : ¬ (m : Int) < 64 * (i : Int) := by omega
          have o7 : 64 * (i : Int) ≤ (m : Int) := by omega
          have o4 : m ≤ L := by omega
          have HPb := Lib.hid (partJ_byte HByte.out i)
          have HWr : Hid (∀ V, Below wr.heap.size wr V → Calls Tryz.prog 59 #[rdV x al cl, .int .i64 g, .int .i64 (f + i), .string (bs (partJ row i))] V fun e w' => (∃ a' c', e = .returned (.tuple #[rdV (writeR x D (atJ ⟨g, f, (n : Int)⟩ i) (partJ row i)) a' c', .int .i64 (wErr D (atJ ⟨g, f, (n : Int)⟩ i) (partJ row i).length : Nat)]) ∧ LstS w' a' c' (writeR x D (atJ ⟨g, f, (n : Int)⟩ i) (partJ row i)).l) ∧ Below V.heap.size V w') := fun V hV => rwrite_ x D (atJ ⟨g, f, (n : Int)⟩ i) (partJ row i) (HI.out.ls.on hV) HI.out.tie HPb.out (by omega)
          have HTw : Hid (Tie (writeD D (atJ ⟨g, f, (n : Int)⟩ i) (partJ row i)) (writeR x D (atJ ⟨g, f, (n : Int)⟩ i) (partJ row i))) := tie_write HI.out.tie HPb.out HI.out.lf
          have HRs : Hid ((writeD D (atJ ⟨g, f, (n : Int)⟩ i) (partJ row i)).r = 2 ∧ (writeD D (atJ ⟨g, f, (n : Int)⟩ i) (partJ row i)).s = 12) := by
            show _ ∧ _
            rw [(size_write _ _ _).1, (size_write _ _ _).2]; exact HI.out.rs
          have HLf := Lib.hid (left_write (atJ ⟨g, f, (n : Int)⟩ i) (partJ row i) HI.out.lf)
          generalize writeR x D (atJ ⟨g, f, (n : Int)⟩ i) (partJ row i) = X' at *
          generalize wErr D (atJ ⟨g, f, (n : Int)⟩ i) (partJ row i).length = EE at *
          generalize writeD D (atJ ⟨g, f, (n : Int)⟩ i) (partJ row i) = D' at *
          generalize bs (partJ row i) = PS at *
          obtain ⟨r, s9, l, cr, ar, lf⟩ := x
          unfold rdV rdC at HWr
          dsimp only at HWr
          have KD : Hid (∀ V, Below wr.heap.size wr V → (Instr.loadAt 33 (.pointer (some ⟨w.heap.size + 1, 0, none⟩))).run Tryz.prog V = .ok (.agg #[.int .i64 r, .int .i64 s9, .slice al l.length cl, .bool cr, .bool ar, .int .i64 lf]) V) := fun V hV => load_rd (HI.out.four.on hV).d rfl
          have K0 : Hid (∀ V, Below wr.heap.size wr V → V.cell? ⟨w.heap.size, 0, none⟩ = some (.int .i64 g)) := fun V hV => cell_of (HI.out.four.on hV).j rfl
          have K1 : Hid (∀ V, Below wr.heap.size wr V → V.cell? ⟨w.heap.size, 1, none⟩ = some (.int .i64 f)) := fun V hV => cell_of (HI.out.four.on hV).j rfl
          have K4 : Hid (∀ V, Below wr.heap.size wr V → V.cell? ⟨w.heap.size, 4, none⟩ = some (.string RR)) := fun V hV => cell_of (HI.out.four.on hV).j rfl
          generalize l.length = L1 at *
          clear hm HPb HC HPs hlen
          go_wp2_with fail
          clear y0 y1 y2 y3 y4 y5 y6 y7 y8
          refine wp_region_noPanic ?_
          refine wp_region_held_drew (S := fun V => Below wr.heap.size wr V) (by kernel_rfl) (below_drew _) (fun hHeld => ?_)
          refine tk 0 (.agg #[.int .i64 r, .int .i64 s9, .slice al L1 cl, .bool cr, .bool ar, .int .i64 lf]) (hy := (yields_load (by rfl) 33 _ (by rfl) _ _ (by rfl) (KD.out))) (h := ?_)
          refine tk 1 (.pointer (some ⟨w.heap.size, 0, none⟩)) (h := ?_)
          refine tk 2 (.pointer (some ⟨w.heap.size, 0, none⟩)) (h := ?_)
          refine take_at 3 (.int .i64 g) rfl (by kernel_rfl) (by kernel_rfl) (by kernel_rfl) (fun _ _ _ h => h) (Or.inl ⟨by rfl, ?_⟩) (by assumption) ?_
          · intro V hSV; have e0 := K0.out V hSV; go_simp
          simp only [Act.put, List.setIfInBounds_toArray, List.set_cons_zero, List.set_cons_succ]
          refine tk 4 (.pointer (some ⟨w.heap.size, 0, none⟩)) (h := ?_)
          refine tk 5 (.pointer (some ⟨w.heap.size, 1, none⟩)) (h := ?_)
          refine take_at 6 (.int .i64 f) rfl (by kernel_rfl) (by kernel_rfl) (by kernel_rfl) (fun _ _ _ h => h) (Or.inl ⟨by rfl, ?_⟩) (by assumption) ?_
          · intro V hSV; have e0 := K1.out V hSV; go_simp
          simp only [Act.put, List.setIfInBounds_toArray, List.set_cons_zero, List.set_cons_succ]
          refine tk 7 (.int .i64 (i : Nat)) (h := ?_)
          refine tk 8 (.int .i64 (f + (i : Nat))) (h := ?_)
          refine tk 9 (.pointer (some ⟨w.heap.size, 4, none⟩)) (h := ?_)
          refine take_at 10 (.string RR) rfl (by kernel_rfl) (by kernel_rfl) (by kernel_rfl) (fun _ _ _ h => h) (Or.inl ⟨by rfl, ?_⟩) (by assumption) ?_
          · intro V hSV; have e0 := K4.out V hSV; go_simp
          simp only [Act.put, List.setIfInBounds_toArray, List.set_cons_zero, List.set_cons_succ]
          refine tk 11 (.int .i64 (i : Nat)) (h := ?_)
          refine tk 12 (.int .i64 (64 * (i : Nat))) (h := ?_)
          refine tk 13 (.int .i64 (i : Nat)) (h := ?_)
          refine tk 14 (.int .i64 (64 * (i : Nat))) (h := ?_)
          refine tk 15 (.int .i64 (64 * (i : Nat) + 64)) (h := ?_)
          refine tk 16 (.pointer (some ⟨w.heap.size, 4, none⟩)) (h := ?_)
          refine take_at 17 (.string RR) rfl (by kernel_rfl) (by kernel_rfl) (by kernel_rfl) (fun _ _ _ h => h) (Or.inl ⟨by rfl, ?_⟩) (by assumption) ?_
          · intro V hSV; have e0 := K4.out V hSV; go_simp
          simp only [Act.put, List.setIfInBounds_toArray, List.set_cons_zero, List.set_cons_succ]
          refine tk 18 (.int .i64 (L : Nat)) (h := ?_)
          refine tk 19 (.int .i64 (m : Nat)) (h := ?_)
          refine tk 20 (.string PS) (h := ?_)
          clear KD K0 K1 K4

          refine wpAnyH_ready (rs := [21, 25]) (by kernel_rfl) (by simp) ?_
          refine AllReadyH.cons rfl (fun KK hK => ?_) (AllReadyH.cons rfl (fun KK hK => ?_) AllReadyH.nil)
          · go_simp
            go_wp2_with (first | (go_at_call 59; refine (HWr.out _ (below_drew _)).mono ?_; rintro e U2 ⟨⟨a', c', rfl, hL2⟩, hb2⟩))
            refine hK.out _ _ ?_ (fun hHeld21 => ?_)
            · exact below_step (below_drew _) hb2
            clear hK KK
            have hT2 := HTw.out
            obtain ⟨r', s', l', cr', ar', lf'⟩ := X'
            dsimp only at hL2 hT2 ⊢
            generalize hL' : l'.length = L' at *
            have HT2 := Lib.hid (And.intro hT2 hL')
            clear hT2 hL' HTw

            obtain ⟨U4, hst, hput⟩ := put_rd (cs := #[.int .i64 r', .int .i64 s', .slice a' L' c', .bool cr', .bool ar', .int .i64 lf']) (alloc_at U2 (.cells #[.int .i64 0, .int .i64 0, .slice none 0 0, .bool false, .bool false, .int .i64 0] 33)) rfl rfl (six_one _ _ _ _ _ _ _ _)
            have hSa : Below wr.heap.size wr (U2.alloc (.cells #[.int .i64 0, .int .i64 0, .slice none 0 0, .bool false, .bool false, .int .i64 0] 33)) := below_step hHeld21 (below_alloc _ _)
            have hSs : Below wr.heap.size wr U4 := hput.below hSa hHeld21.size
            obtain ⟨BX, hBX⟩ : ∃ BX, BX = U2.heap.size := ⟨_, rfl⟩
            have HU : Hid (U4.heap[BX]? = some (.cells #[.int .i64 r', .int .i64 s', .slice a' L' c', .bool cr', .bool ar', .int .i64 lf'] 33 (0, 0)) ∧ Below wr.heap.size wr U4 ∧ LstS U4 a' c' l' ∧ wr.heap.size ≤ BX) := by rw [hBX]; exact ⟨hput.blk, hSs, (hL2.on (below_alloc U2 _)).put hput (by decide) ⟨_, _, alloc_at U2 _⟩, hHeld21.size⟩
            refine tk 22 (.tuple #[.agg #[.int .i64 r', .int .i64 s', .slice a' L' c', .bool cr', .bool ar', .int .i64 lf'], .int .i64 (EE : Nat)]) (h := ?_)
            refine tk 23 (.agg #[.int .i64 r', .int .i64 s', .slice a' L' c', .bool cr', .bool ar', .int .i64 lf']) (h := ?_)
            refine tk 24 (.int .i64 (EE : Nat)) (h := ?_)
            refine ready_alloc_rd 25 rfl (by kernel_rfl) (by rfl) (by rfl) hSa ?_
            refine ready_store 26 rfl (by kernel_rfl) (by rfl) 33 _ _ (by rfl) _ _ (by rfl) (by rfl) hst hSs ?_
            refine tk 27 (.int .i64 (EE : Nat)) (h := ?_)
            refine wpAnyH_done (by kernel_rfl) ?_ _
            refine NoPanic.normal ?_
            rw [← hBX]
            clear hst hSa hSs hput hL2 hb2 hHeld hHeld21 hBX
            obtain ⟨U5, hs5, hp5⟩ := put_rd (cs := #[.int .i64 r', .int .i64 s', .slice a' L' c', .bool cr', .bool ar', .int .i64 lf']) (HI.out.four.on HU.out.2.1).d rfl rfl (six_one _ _ _ _ _ _ _ _)
            have HX5 := Lib.hid ((HI.out.four.on HU.out.2.1).putd hp5)
            have HLs5 := Lib.hid (HU.out.2.2.1.put hp5 (by decide) ⟨_, _, (HI.out.four.on HU.out.2.1).d⟩)
            have HL4 := Lib.hid (load_rd HU.out.1 rfl)
            have HS5 := Lib.hid hs5
            clear hs5 hp5 HU HI
            by_cases hE0 : EE = 0
            · have hE1 : ((EE : Int) == 0) = true := by simp [hE0]
              have HI5 : Hid (RfI w #[.int .i64 g, .int .i64 f, .int .i64 (n : Int), .int .u64 ep0, .string RR, .slice ea en ec, .int .i64 (sf : Nat), .int .i64 (wt : Nat), .int .i64 0] U5 D' ⟨r', s', l', cr', ar', lf'⟩ a' c') := ⟨HT2.out.1, HLs5.out, HRs.out, HLf.out, by unfold rdC; dsimp only; rw [HT2.out.2]; exact HX5.out⟩
              have HN1 : Hid (rwrS ⟨g, f, (n : Int)⟩ row sf d (i + 1) = (D', 0)) := by rw [← hE0]; exact HN.out
              clear HX5 HLs5 HT2 HRs HLf HN hE0
              go_wp2_with (first
                | (refine wpList_load_at rfl 33 _ rfl _ _ rfl HL4.out ?_)
                | (refine wpList_store_at rfl 33 _ _ rfl _ _ rfl rfl HS5.out ?_)
                | fail)
              go_roundw
              case rel => exact ⟨i + 1, D', _, a', c', by go_num, by omega, HN1, HI5⟩
              case measure => simp [intOf]; omega
            · have hE1 : ((EE : Int) == 0) = false := by simpa using hE0
              have HX6 : Hid (Four w (U5.setCell ⟨w.heap.size, 8, none⟩ (.int .i64 (EE : Nat))) #[.int .i64 g, .int .i64 f, .int .i64 (n : Int), .int .u64 ep0, .string RR, .slice ea en ec, .int .i64 (sf : Nat), .int .i64 (wt : Nat), .int .i64 (EE : Nat)] #[.int .i64 r', .int .i64 s', .slice a' L' c', .bool cr', .bool ar', .int .i64 lf']) := HX5.out.setj 8 _ rfl
              have HLs6 := Lib.hid (HLs5.out.set (o := 8) (.int .i64 (EE : Nat)) HX5.out.j (by decide))
              obtain ⟨hZ1, hZ2⟩ := HBad.out (i + 1) D' EE (by omega) HN.out hE0
              have HF1 : Hid (∀ V2, LstS V2 a' c' l' → Below w.heap.size w V2 → RjdTo w M (wrtD ⟨g, f, (n : Int)⟩ row sf d) (JD (wrtE ⟨g, f, (n : Int)⟩ row sf d)) (wrtE ⟨g, f, (n : Int)⟩ row sf d) (.returned (.tuple #[.agg #[.int .i64 g, .int .i64 f, .int .i64 (n : Int), .int .u64 ep0, .string RR, .slice ea en ec, .int .i64 (sf : Nat), .int .i64 (wt : Nat), .int .i64 (EE : Nat)], .agg #[.int .i64 r', .int .i64 s', .slice a' L' c', .bool cr', .bool ar', .int .i64 lf'], .int .i64 (EE : Nat)])) V2) := fun V2 hl hb => by
                have q := HFd.out V2 EE hE0 ⟨r', s', l', cr', ar', lf'⟩ a' c' hl (by rw [hZ1]; exact HT2.out.1) (by rw [hZ2]) hb
                dsimp only at q
                rw [HT2.out.2] at q
                exact q
              obtain ⟨y0, y1, y2, y3, y4, y5, y6, y7, y8⟩ := rj_cells0 HX5.out.j
              have f8 : U5.frozen? ⟨w.heap.size, 8, none⟩ = false := frozen_of HX5.out.j
              clear HX5 HLs5 HT2 HRs HLf HN hZ1 hZ2 hE0
              go_wp2_with (first
                | (refine wpList_load_at rfl 33 _ rfl _ _ rfl HL4.out ?_)
                | (refine wpList_store_at rfl 33 _ _ rfl _ _ rfl rfl HS5.out ?_)
                | fail)
              clear y0 y1 y2 y3 y4 y5 y6 y7 y8 f8 HL4 HS5
              generalize U5.setCell ⟨w.heap.size, 8, none⟩ (.int .i64 (EE : Nat)) = U6 at *
              have HX := HX6
              obtain ⟨V1, hs1, hp1⟩ := put_rj (w := U6.drew) (cs := #[.int .i64 g, .int .i64 f, .int .i64 (n : Int), .int .u64 ep0, .string RR, .slice ea en ec, .int .i64 (sf : Nat), .int .i64 (wt : Nat), .int .i64 (EE : Nat)]) HX.out.oj rfl rfl (rj_one _ _ _ _ _ _ _ _ _ _ _)
              obtain ⟨V2, hs2, hp2⟩ := put_rd (w := V1) (cs := #[.int .i64 r', .int .i64 s', .slice a' L' c', .bool cr', .bool ar', .int .i64 lf']) ((hp1.far _ (by omega)).trans HX.out.od) rfl rfl (six_one _ _ _ _ _ _ _ _)
              have hS1 : Two (w.heap.size + 1 + 1) (w.heap.size + 1 + 1 + 1) U6 V1 := (Two.drew _ _ _).put hp1 (.inl rfl)
              have hS2 : Two (w.heap.size + 1 + 1) (w.heap.size + 1 + 1 + 1) U6 V2 := hS1.put hp2 (.inr rfl)
              have hBv : Below w.heap.size w V2 := hS2.below HX.out.bw HX.out.bw.size (by omega) (by omega)
              have HE := Lib.hid (And.intro ((hp2.far _ (by omega)).trans hp1.blk : V2.heap[w.heap.size + 1 + 1]? = some (.cells #[.int .i64 g, .int .i64 f, .int .i64 (n : Int), .int .u64 ep0, .string RR, .slice ea en ec, .int .i64 (sf : Nat), .int .i64 (wt : Nat), .int .i64 (EE : Nat)] 43 (0, 0))) (And.intro hp2.blk (HF1.out V2 (((HLs6.out.on (below_drew _)).put hp1 (by decide) ⟨_, _, HX.out.oj⟩).put hp2 (by decide) ⟨_, _, (hp1.far _ (by omega)).trans HX.out.od⟩) hBv)))
              clear hp1 hp2 hBv
              have GL : Hid (∀ V, Two (w.heap.size + 1 + 1) (w.heap.size + 1 + 1 + 1) U6 V → (Instr.loadAt 43 (.pointer (some ⟨w.heap.size, 0, none⟩))).run Tryz.prog V = .ok (.agg #[.int .i64 g, .int .i64 f, .int .i64 (n : Int), .int .u64 ep0, .string RR, .slice ea en ec, .int .i64 (sf : Nat), .int .i64 (wt : Nat), .int .i64 (EE : Nat)]) V) := fun V hV => load_rj (hV.at HX.out.j (by omega) (by omega)) rfl
              have GD : Hid (∀ V, Two (w.heap.size + 1 + 1) (w.heap.size + 1 + 1 + 1) U6 V → (Instr.loadAt 33 (.pointer (some ⟨w.heap.size + 1, 0, none⟩))).run Tryz.prog V = .ok (.agg #[.int .i64 r', .int .i64 s', .slice a' L' c', .bool cr', .bool ar', .int .i64 lf']) V) := fun V hV => load_rd (hV.at HX.out.d (by omega) (by omega)) rfl
              clear HF1 HX HX6 HLs6
              refine wp_region_noPanic ?_
              refine wp_region_held_drew (S := fun V => Two (w.heap.size + 1 + 1) (w.heap.size + 1 + 1 + 1) U6 V) (by kernel_rfl) (Two.drew _ _ _) (fun hHeld => ?_)
              refine tk 0 (.agg #[.int .i64 g, .int .i64 f, .int .i64 (n : Int), .int .u64 ep0, .string RR, .slice ea en ec, .int .i64 (sf : Nat), .int .i64 (wt : Nat), .int .i64 (EE : Nat)]) (hy := (yields_load (by rfl) 43 _ (by rfl) _ _ (by rfl) (GL.out))) (h := ?_)
              refine tk 1 (.agg #[.int .i64 r', .int .i64 s', .slice a' L' c', .bool cr', .bool ar', .int .i64 lf']) (hy := (yields_load (by rfl) 33 _ (by rfl) _ _ (by rfl) (GD.out))) (h := ?_)
              refine tk 2 (.int .i64 (EE : Nat)) (h := ?_)

              refine ready_store 3 rfl (by kernel_rfl) (by rfl) 43 _ _ (by rfl) _ _ (by rfl) (by rfl) hs1 hS1 ?_
              refine ready_store 4 rfl (by kernel_rfl) (by rfl) 33 _ _ (by rfl) _ _ (by rfl) (by rfl) hs2 hS2 ?_
              refine tk 5 (.int .i64 (EE : Nat)) (h := ?_)
              refine wpAnyH_done (by kernel_rfl) ?_ _
              refine NoPanic.normal ?_
              go_wp2_with fail
              exact bodyPost_ret (results_jd rfl _ _ (w.heap.size + 1 + 1) (w.heap.size + 1 + 1 + 1) _ _ (.int .i64 (EE : Nat)) rfl rfl rfl HE.out.1 rfl HE.out.2.1 rfl) rfl HE.out.2.2

          · go_simp
            have hBz : Below wr.heap.size wr (wr.alloc (.cells #[.int .i64 0, .int .i64 0, .slice none 0 0, .bool false, .bool false, .int .i64 0] 33)).drew := below_step (below_alloc _ _) (below_drew _)
            refine hK.out _ _ ?_ (fun hHeld25 => ?_)
            · exact hBz
            clear hK KK
            have hz13 : ((wr.alloc (.cells #[.int .i64 0, .int .i64 0, .slice none 0 0, .bool false, .bool false, .int .i64 0] 33)).drew).heap[wr.heap.size]? = some (.cells #[.int .i64 0, .int .i64 0, .slice none 0 0, .bool false, .bool false, .int .i64 0] 33 (0, 0)) := alloc_at wr _
            have HSz := Lib.hid (HWr.out _ hBz)
            have HBz := Lib.hid (And.intro hBz hz13)
            clear hBz hz13
            generalize (wr.alloc (.cells #[.int .i64 0, .int .i64 0, .slice none 0 0, .bool false, .bool false, .int .i64 0] 33)).drew = Uz at *
            refine wpAnyH_ready (rs := [21]) (by kernel_rfl) (by simp) ?_
            refine AllReadyH.cons rfl (fun KK hK => ?_) AllReadyH.nil
            go_simp
            go_wp2_with (first | (go_at_call 59; refine HSz.out.mono ?_; rintro e U2 ⟨⟨a', c', rfl, hL2⟩, hb2⟩))
            refine hK.out _ _ ?_ (fun hHeld21 => ?_)
            · exact below_step HBz.out.1 hb2
            clear hK KK
            have hT2 := HTw.out
            obtain ⟨r', s', l', cr', ar', lf'⟩ := X'
            dsimp only at hL2 hT2 ⊢
            generalize hL' : l'.length = L' at *
            have HT2 := Lib.hid (And.intro hT2 hL')
            clear hT2 hL' HTw

            have hz := (hb2.block _ (blk_lt HBz.out.2)).trans HBz.out.2
            obtain ⟨U4, hst, hput⟩ := put_rd (cs := #[.int .i64 r', .int .i64 s', .slice a' L' c', .bool cr', .bool ar', .int .i64 lf']) hz rfl rfl (six_one _ _ _ _ _ _ _ _)
            have hSs : Below wr.heap.size wr U4 := hput.below hHeld21 (Nat.le_refl _)
            obtain ⟨BX, hBX⟩ : ∃ BX, BX = wr.heap.size := ⟨_, rfl⟩
            have HU : Hid (U4.heap[BX]? = some (.cells #[.int .i64 r', .int .i64 s', .slice a' L' c', .bool cr', .bool ar', .int .i64 lf'] 33 (0, 0)) ∧ Below wr.heap.size wr U4 ∧ LstS U4 a' c' l' ∧ wr.heap.size ≤ BX) := by rw [hBX]; exact ⟨hput.blk, hSs, hL2.put hput (by decide) ⟨_, _, hz⟩, Nat.le_refl _⟩
            refine tk 22 (.tuple #[.agg #[.int .i64 r', .int .i64 s', .slice a' L' c', .bool cr', .bool ar', .int .i64 lf'], .int .i64 (EE : Nat)]) (h := ?_)
            refine tk 23 (.agg #[.int .i64 r', .int .i64 s', .slice a' L' c', .bool cr', .bool ar', .int .i64 lf']) (h := ?_)
            refine tk 24 (.int .i64 (EE : Nat)) (h := ?_)
            refine ready_store 26 rfl (by kernel_rfl) (by rfl) 33 _ _ (by rfl) _ _ (by rfl) (by rfl) hst hSs ?_
            refine tk 27 (.int .i64 (EE : Nat)) (h := ?_)
            refine wpAnyH_done (by kernel_rfl) ?_ _
            refine NoPanic.normal ?_
            rw [← hBX]
            clear hst hSs hput hL2 hb2 hz hHeld hHeld21 hHeld25 hBX HBz HSz
            obtain ⟨U5, hs5, hp5⟩ := put_rd (cs := #[.int .i64 r', .int .i64 s', .slice a' L' c', .bool cr', .bool ar', .int .i64 lf']) (HI.out.four.on HU.out.2.1).d rfl rfl (six_one _ _ _ _ _ _ _ _)
            have HX5 := Lib.hid ((HI.out.four.on HU.out.2.1).putd hp5)
            have HLs5 := Lib.hid (HU.out.2.2.1.put hp5 (by decide) ⟨_, _, (HI.out.four.on HU.out.2.1).d⟩)
            have HL4 := Lib.hid (load_rd HU.out.1 rfl)
            have HS5 := Lib.hid hs5
            clear hs5 hp5 HU HI
            by_cases hE0 : EE = 0
            · have hE1 : ((EE : Int) == 0) = true := by simp [hE0]
              have HI5 : Hid (RfI w #[.int .i64 g, .int .i64 f, .int .i64 (n : Int), .int .u64 ep0, .string RR, .slice ea en ec, .int .i64 (sf : Nat), .int .i64 (wt : Nat), .int .i64 0] U5 D' ⟨r', s', l', cr', ar', lf'⟩ a' c') := ⟨HT2.out.1, HLs5.out, HRs.out, HLf.out, by unfold rdC; dsimp only; rw [HT2.out.2]; exact HX5.out⟩
              have HN1 : Hid (rwrS ⟨g, f, (n : Int)⟩ row sf d (i + 1) = (D', 0)) := by rw [← hE0]; exact HN.out
              clear HX5 HLs5 HT2 HRs HLf HN hE0
              go_wp2_with (first
                | (refine wpList_load_at rfl 33 _ rfl _ _ rfl HL4.out ?_)
                | (refine wpList_store_at rfl 33 _ _ rfl _ _ rfl rfl HS5.out ?_)
                | fail)
              go_roundw
              case rel => exact ⟨i + 1, D', _, a', c', by go_num, by omega, HN1, HI5⟩
              case measure => simp [intOf]; omega
            · have hE1 : ((EE : Int) == 0) = false := by simpa using hE0
              have HX6 : Hid (Four w (U5.setCell ⟨w.heap.size, 8, none⟩ (.int .i64 (EE : Nat))) #[.int .i64 g, .int .i64 f, .int .i64 (n : Int), .int .u64 ep0, .string RR, .slice ea en ec, .int .i64 (sf : Nat), .int .i64 (wt : Nat), .int .i64 (EE : Nat)] #[.int .i64 r', .int .i64 s', .slice a' L' c', .bool cr', .bool ar', .int .i64 lf']) := HX5.out.setj 8 _ rfl
              have HLs6 := Lib.hid (HLs5.out.set (o := 8) (.int .i64 (EE : Nat)) HX5.out.j (by decide))
              obtain ⟨hZ1, hZ2⟩ := HBad.out (i + 1) D' EE (by omega) HN.out hE0
              have HF1 : Hid (∀ V2, LstS V2 a' c' l' → Below w.heap.size w V2 → RjdTo w M (wrtD ⟨g, f, (n : Int)⟩ row sf d) (JD (wrtE ⟨g, f, (n : Int)⟩ row sf d)) (wrtE ⟨g, f, (n : Int)⟩ row sf d) (.returned (.tuple #[.agg #[.int .i64 g, .int .i64 f, .int .i64 (n : Int), .int .u64 ep0, .string RR, .slice ea en ec, .int .i64 (sf : Nat), .int .i64 (wt : Nat), .int .i64 (EE : Nat)], .agg #[.int .i64 r', .int .i64 s', .slice a' L' c', .bool cr', .bool ar', .int .i64 lf'], .int .i64 (EE : Nat)])) V2) := fun V2 hl hb => by
                have q := HFd.out V2 EE hE0 ⟨r', s', l', cr', ar', lf'⟩ a' c' hl (by rw [hZ1]; exact HT2.out.1) (by rw [hZ2]) hb
                dsimp only at q
                rw [HT2.out.2] at q
                exact q
              obtain ⟨y0, y1, y2, y3, y4, y5, y6, y7, y8⟩ := rj_cells0 HX5.out.j
              have f8 : U5.frozen? ⟨w.heap.size, 8, none⟩ = false := frozen_of HX5.out.j
              clear HX5 HLs5 HT2 HRs HLf HN hZ1 hZ2 hE0
              go_wp2_with (first
                | (refine wpList_load_at rfl 33 _ rfl _ _ rfl HL4.out ?_)
                | (refine wpList_store_at rfl 33 _ _ rfl _ _ rfl rfl HS5.out ?_)
                | fail)
              clear y0 y1 y2 y3 y4 y5 y6 y7 y8 f8 HL4 HS5
              generalize U5.setCell ⟨w.heap.size, 8, none⟩ (.int .i64 (EE : Nat)) = U6 at *
              have HX := HX6
              obtain ⟨V1, hs1, hp1⟩ := put_rj (w := U6.drew) (cs := #[.int .i64 g, .int .i64 f, .int .i64 (n : Int), .int .u64 ep0, .string RR, .slice ea en ec, .int .i64 (sf : Nat), .int .i64 (wt : Nat), .int .i64 (EE : Nat)]) HX.out.oj rfl rfl (rj_one _ _ _ _ _ _ _ _ _ _ _)
              obtain ⟨V2, hs2, hp2⟩ := put_rd (w := V1) (cs := #[.int .i64 r', .int .i64 s', .slice a' L' c', .bool cr', .bool ar', .int .i64 lf']) ((hp1.far _ (by omega)).trans HX.out.od) rfl rfl (six_one _ _ _ _ _ _ _ _)
              have hS1 : Two (w.heap.size + 1 + 1) (w.heap.size + 1 + 1 + 1) U6 V1 := (Two.drew _ _ _).put hp1 (.inl rfl)
              have hS2 : Two (w.heap.size + 1 + 1) (w.heap.size + 1 + 1 + 1) U6 V2 := hS1.put hp2 (.inr rfl)
              have hBv : Below w.heap.size w V2 := hS2.below HX.out.bw HX.out.bw.size (by omega) (by omega)
              have HE := Lib.hid (And.intro ((hp2.far _ (by omega)).trans hp1.blk : V2.heap[w.heap.size + 1 + 1]? = some (.cells #[.int .i64 g, .int .i64 f, .int .i64 (n : Int), .int .u64 ep0, .string RR, .slice ea en ec, .int .i64 (sf : Nat), .int .i64 (wt : Nat), .int .i64 (EE : Nat)] 43 (0, 0))) (And.intro hp2.blk (HF1.out V2 (((HLs6.out.on (below_drew _)).put hp1 (by decide) ⟨_, _, HX.out.oj⟩).put hp2 (by decide) ⟨_, _, (hp1.far _ (by omega)).trans HX.out.od⟩) hBv)))
              clear hp1 hp2 hBv
              have GL : Hid (∀ V, Two (w.heap.size + 1 + 1) (w.heap.size + 1 + 1 + 1) U6 V → (Instr.loadAt 43 (.pointer (some ⟨w.heap.size, 0, none⟩))).run Tryz.prog V = .ok (.agg #[.int .i64 g, .int .i64 f, .int .i64 (n : Int), .int .u64 ep0, .string RR, .slice ea en ec, .int .i64 (sf : Nat), .int .i64 (wt : Nat), .int .i64 (EE : Nat)]) V) := fun V hV => load_rj (hV.at HX.out.j (by omega) (by omega)) rfl
              have GD : Hid (∀ V, Two (w.heap.size + 1 + 1) (w.heap.size + 1 + 1 + 1) U6 V → (Instr.loadAt 33 (.pointer (some ⟨w.heap.size + 1, 0, none⟩))).run Tryz.prog V = .ok (.agg #[.int .i64 r', .int .i64 s', .slice a' L' c', .bool cr', .bool ar', .int .i64 lf']) V) := fun V hV => load_rd (hV.at HX.out.d (by omega) (by omega)) rfl
              clear HF1 HX HX6 HLs6
              refine wp_region_noPanic ?_
              refine wp_region_held_drew (S := fun V => Two (w.heap.size + 1 + 1) (w.heap.size + 1 + 1 + 1) U6 V) (by kernel_rfl) (Two.drew _ _ _) (fun hHeld => ?_)
              refine tk 0 (.agg #[.int .i64 g, .int .i64 f, .int .i64 (n : Int), .int .u64 ep0, .string RR, .slice ea en ec, .int .i64 (sf : Nat), .int .i64 (wt : Nat), .int .i64 (EE : Nat)]) (hy := (yields_load (by rfl) 43 _ (by rfl) _ _ (by rfl) (GL.out))) (h := ?_)
              refine tk 1 (.agg #[.int .i64 r', .int .i64 s', .slice a' L' c', .bool cr', .bool ar', .int .i64 lf']) (hy := (yields_load (by rfl) 33 _ (by rfl) _ _ (by rfl) (GD.out))) (h := ?_)
              refine tk 2 (.int .i64 (EE : Nat)) (h := ?_)

              refine ready_store 3 rfl (by kernel_rfl) (by rfl) 43 _ _ (by rfl) _ _ (by rfl) (by rfl) hs1 hS1 ?_
              refine ready_store 4 rfl (by kernel_rfl) (by rfl) 33 _ _ (by rfl) _ _ (by rfl) (by rfl) hs2 hS2 ?_
              refine tk 5 (.int .i64 (EE : Nat)) (h := ?_)
              refine wpAnyH_done (by kernel_rfl) ?_ _
              refine NoPanic.normal ?_
              go_wp2_with fail
              exact bodyPost_ret (results_jd rfl _ _ (w.heap.size + 1 + 1) (w.heap.size + 1 + 1 + 1) _ _ (.int .i64 (EE : Nat)) rfl rfl rfl HE.out.1 rfl HE.out.2.1 rfl) rfl HE.out.2.2

    · have hlt3 : ¬ (i : Int) < (n : Int) := by omega
      obtain rfl : i = n := by omega
      obtain ⟨hZ0, hZ1, hZ2⟩ := HGood.out D HC.out
      have HSy := Lib.hid (rsyncT x D g HI.out.ls HI.out.tie (by rw [HI.out.rs.2]; omega) (by omega))
      have HTs := Lib.hid (tie_sync HI.out.tie g)
      have HLd := Lib.hid (load_rd HI.out.four.d rfl)
      rw [hZ0] at HSy
      generalize syncRD x D g = X' at *
      obtain ⟨r, s9, l, cr, ar, lf⟩ := x
      unfold rdC at HLd
      unfold rdV rdC at HSy
      dsimp only at HLd HSy
      generalize l.length = L1 at *
      go_wp2_with (first | (refine wpList_load_at rfl 33 _ rfl _ _ rfl HLd.out ?_) | fail)
      refine HSy.out.mono ?_
      rintro e U2 ⟨⟨a', c', rfl, hL2⟩, hb2⟩
      have hT2 := HTs.out
      obtain ⟨r', s', l', cr', ar', lf'⟩ := X'
      dsimp only at hT2 hL2 ⊢
      generalize hL' : l'.length = L' at *
      have HT2 := Lib.hid (And.intro hT2 hL')
      obtain ⟨U4, hst, hput⟩ := put_rd (cs := #[.int .i64 r', .int .i64 s', .slice a' L' c', .bool cr', .bool ar', .int .i64 lf']) (alloc_at U2 (.cells #[.int .i64 0, .int .i64 0, .slice none 0 0, .bool false, .bool false, .int .i64 0] 33)) rfl rfl (six_one _ _ _ _ _ _ _ _)
      have hX2 := HI.out.four.on (below_step hb2 (below_alloc U2 (.cells #[.int .i64 0, .int .i64 0, .slice none 0 0, .bool false, .bool false, .int .i64 0] 33)))
      have hBq : w.heap.size + 1 + 1 + 1 < U2.heap.size := by have := blk_lt HI.out.four.od; have := hb2.size; omega
      have hX4 := hX2.put hput hBq
      have HL4 := Lib.hid ((hL2.on (below_alloc U2 (.cells #[.int .i64 0, .int .i64 0, .slice none 0 0, .bool false, .bool false, .int .i64 0] 33))).put hput (by decide) ⟨_, _, alloc_at U2 _⟩)
      have HSt := Lib.hid hst
      obtain ⟨BX, hBX⟩ : ∃ BX, BX = U2.heap.size := ⟨_, rfl⟩
      have HBk : Hid (((U4.setCell ⟨w.heap.size, 6, none⟩ (.int .i64 (L : Nat))).setCell ⟨w.heap.size, 7, none⟩ (.int .i64 0)).heap[BX]? = some (.cells #[.int .i64 r', .int .i64 s', .slice a' L' c', .bool cr', .bool ar', .int .i64 lf'] 33 (0, 0)) ∧ w.heap.size + 1 + 1 + 1 < BX) := by
        rw [hBX]
        exact ⟨(heap_far _ (by omega)).trans ((heap_far _ (by omega)).trans hput.blk), hBq⟩
      have hX6 : Four w (U4.setCell ⟨w.heap.size, 6, none⟩ (.int .i64 (L : Nat))) #[.int .i64 g, .int .i64 f, .int .i64 (i : Int), .int .u64 ep0, .string RR, .slice ea en ec, .int .i64 (L : Nat), .int .i64 (wt : Nat), .int .i64 0] _ := hX4.setj 6 _ rfl
      have HX6 : Hid (Four w ((U4.setCell ⟨w.heap.size, 6, none⟩ (.int .i64 (L : Nat))).setCell ⟨w.heap.size, 7, none⟩ (.int .i64 0)) #[.int .i64 g, .int .i64 f, .int .i64 (i : Int), .int .u64 ep0, .string RR, .slice ea en ec, .int .i64 (L : Nat), .int .i64 0, .int .i64 0] _) := hX6.setj 7 _ rfl
      have HL6 := Lib.hid ((HL4.out.set (o := 6) (.int .i64 (L : Nat)) hX4.j (by decide)).set (o := 7) (.int .i64 0) hX6.j (by decide))
      clear y0 y1 y2 y3 y4 y5 y6 y7 y8
      obtain ⟨y0, y1, y2, y3, y4, y5, y6, y7, y8⟩ := rj_cells0 hX4.j
      have f6 : U4.frozen? ⟨w.heap.size, 6, none⟩ = false := frozen_of hX4.j
      have z7 : (U4.setCell ⟨w.heap.size, 6, none⟩ (.int .i64 (L : Nat))).cell? ⟨w.heap.size, 7, none⟩ = some (.int .i64 (wt : Nat)) := cell_of hX6.j rfl
      have f7 : (U4.setCell ⟨w.heap.size, 6, none⟩ (.int .i64 (L : Nat))).frozen? ⟨w.heap.size, 7, none⟩ = false := frozen_of hX6.j
      have HF1 : Hid (∀ V2, LstS V2 a' c' l' → Below w.heap.size w V2 → RjdTo w M (wrtD ⟨g, f, (i : Int)⟩ row sf d) (JD (wrtE ⟨g, f, (i : Int)⟩ row sf d)) (wrtE ⟨g, f, (i : Int)⟩ row sf d) (.returned (.tuple #[.agg #[.int .i64 g, .int .i64 f, .int .i64 (i : Int), .int .u64 ep0, .string RR, .slice ea en ec, .int .i64 (L : Nat), .int .i64 0, .int .i64 0], .agg #[.int .i64 r', .int .i64 s', .slice a' L' c', .bool cr', .bool ar', .int .i64 lf'], .int .i64 0])) V2) := fun V2 hl hb => by
        have q := HFg.out V2 ⟨r', s', l', cr', ar', lf'⟩ a' c' hl (by rw [hZ1]; exact HT2.out.1) hZ2 hb
        dsimp only at q
        rw [HT2.out.2] at q
        exact q
      clear hX4 hX6 hX2 hT2 hL' hst hput hL2 hb2 hBq HTs HSy HLd HI HC hZ0 hZ1 hZ2 HFd HFg HGood HBad HT2 HL4
      go_wp2_with (first | (refine wpList_store_at rfl 33 _ _ rfl _ _ rfl rfl HSt.out ?_) | fail)
      rw [← hBX]
      clear hBX HSt y0 y1 y2 y3 y4 y5 y6 y7 y8 f6 z7 f7
      generalize (U4.setCell ⟨w.heap.size, 6, none⟩ (.int .i64 (L : Nat))).setCell ⟨w.heap.size, 7, none⟩ (.int .i64 0) = U6 at *
      have HX := HX6
      obtain ⟨V1, hs1, hp1⟩ := put_rj (w := U6.drew) (cs := #[.int .i64 g, .int .i64 f, .int .i64 (i : Int), .int .u64 ep0, .string RR, .slice ea en ec, .int .i64 (L : Nat), .int .i64 0, .int .i64 0]) HX.out.oj rfl rfl (rj_one _ _ _ _ _ _ _ _ _ _ _)
      obtain ⟨V2, hs2, hp2⟩ := put_rd (w := V1) (cs := #[.int .i64 r', .int .i64 s', .slice a' L' c', .bool cr', .bool ar', .int .i64 lf']) ((hp1.far _ (by omega)).trans HX.out.od) rfl rfl (six_one _ _ _ _ _ _ _ _)
      have hS1 : Two (w.heap.size + 1 + 1) (w.heap.size + 1 + 1 + 1) U6 V1 := (Two.drew _ _ _).put hp1 (.inl rfl)
      have hS2 : Two (w.heap.size + 1 + 1) (w.heap.size + 1 + 1 + 1) U6 V2 := hS1.put hp2 (.inr rfl)
      have hBv : Below w.heap.size w V2 := hS2.below HX.out.bw HX.out.bw.size (by omega) (by omega)
      have HE := Lib.hid (And.intro ((hp2.far _ (by omega)).trans hp1.blk : V2.heap[w.heap.size + 1 + 1]? = some (.cells #[.int .i64 g, .int .i64 f, .int .i64 (i : Int), .int .u64 ep0, .string RR, .slice ea en ec, .int .i64 (L : Nat), .int .i64 0, .int .i64 0] 43 (0, 0))) (And.intro hp2.blk (HF1.out V2 (((HL6.out.on (below_drew _)).put hp1 (by decide) ⟨_, _, HX.out.oj⟩).put hp2 (by decide) ⟨_, _, (hp1.far _ (by omega)).trans HX.out.od⟩) hBv)))
      clear hp1 hp2 hBv
      have GL : Hid (∀ V, Two (w.heap.size + 1 + 1) (w.heap.size + 1 + 1 + 1) U6 V → (Instr.loadAt 43 (.pointer (some ⟨w.heap.size, 0, none⟩))).run Tryz.prog V = .ok (.agg #[.int .i64 g, .int .i64 f, .int .i64 (i : Int), .int .u64 ep0, .string RR, .slice ea en ec, .int .i64 (L : Nat), .int .i64 0, .int .i64 0]) V) := fun V hV => load_rj (hV.at HX.out.j (by omega) (by omega)) rfl
      have hbq := HBk.out.2
      have GD : Hid (∀ V, Two (w.heap.size + 1 + 1) (w.heap.size + 1 + 1 + 1) U6 V → (Instr.loadAt 33 (.pointer (some ⟨BX, 0, none⟩))).run Tryz.prog V = .ok (.agg #[.int .i64 r', .int .i64 s', .slice a' L' c', .bool cr', .bool ar', .int .i64 lf']) V) := fun V hV => load_rd (hV.at HBk.out.1 (by omega) (by omega)) rfl
      clear HF1 HX HX6 HL6 HBk
      refine wp_region_noPanic ?_
      refine wp_region_held_drew (S := fun V => Two (w.heap.size + 1 + 1) (w.heap.size + 1 + 1 + 1) U6 V) (by kernel_rfl) (Two.drew _ _ _) (fun hHeld => ?_)
      refine tk 0 (.agg #[.int .i64 g, .int .i64 f, .int .i64 (i : Int), .int .u64 ep0, .string RR, .slice ea en ec, .int .i64 (L : Nat), .int .i64 0, .int .i64 0]) (hy := (yields_load (by rfl) 43 _ (by rfl) _ _ (by rfl) (GL.out))) (h := ?_)
      refine tk 1 (.agg #[.int .i64 r', .int .i64 s', .slice a' L' c', .bool cr', .bool ar', .int .i64 lf']) (hy := (yields_load (by rfl) 33 _ (by rfl) _ _ (by rfl) (GD.out))) (h := ?_)

      refine ready_store 2 rfl (by kernel_rfl) (by rfl) 43 _ _ (by rfl) _ _ (by rfl) (by rfl) hs1 hS1 ?_
      refine ready_store 3 rfl (by kernel_rfl) (by rfl) 33 _ _ (by rfl) _ _ (by rfl) (by rfl) hs2 hS2 ?_
      refine tk 4 (.int .i64 0) (h := ?_)
      refine wpAnyH_done (by kernel_rfl) ?_ _
      refine NoPanic.normal ?_
      go_wp2_with fail
      exact bodyPost_ret (results_jd rfl _ _ (w.heap.size + 1 + 1) (w.heap.size + 1 + 1 + 1) _ _ (.int .i64 0) rfl rfl rfl HE.out.1 rfl HE.out.2.1 rfl) rfl HE.out.2.2
theorem rflush_ {w : World} {d : Dev} {x : RD} {al ea : Option Addr} {cl ec : Nat} {J : Jr} {M : Nat → Prop} (hs : RSt w d x al cl) (hEd : EdF w M ea ec J.ends) (hok : okJ J) (hc : J.dead = 0 → Calm d J) :
    Calls Tryz.prog 36 #[rjV J ea ec, rdV x al cl] w (RjdTo w M (flushD d J) (flushJ d J) (flushE d J)) := by
  by_cases hd : J.dead = 0
  · by_cases hn : J.sf = J.pss.length
    · exact rflush_none hs hEd hd hn
    · exact rflush_ok hs hEd hok (hc hd) hn
  · exact rflush_dead hs hEd hd
end Go.Proofs.YtjnhcanohefjiaaGreatDoor
