/- The walk of the law DiskRuns. -/
import Derived.Test.YtdcanhcejhaccaaDoorRuns0
namespace Go.Proofs.YtdcanhcejhaccaaDoor
open Go.RowKit Go.Sort Go.Maps

theorem new_x (r s : Int) (w : World) (h : 1 ≤ r ∧ r ≤ 16 ∧ 1 ≤ s ∧ s ≤ 16384) :
    Calls Tryd.prog 6 #[.int .i64 r, .int .i64 s] w fun e w' => ∃ p aa bb, e = .returned (.tuple #[.pointer (some ⟨p, 0, none⟩), .nilIface]) ∧ (w.heap.size ≤ p ∧ w.heap.size ≤ aa ∧ w.heap.size ≤ bb) ∧ Below w.heap.size w w' ∧ DevIn w' p aa bb (newD r s) 0 :=
  (new_ r s w h).mono fun _ _ ⟨h1, h2, h3⟩ => ⟨_, _, _, h1, ⟨by omega, by omega, by omega⟩, h2, h3⟩
theorem dev_ne {w : World} {p aa bb B K : Nat} {d : Dev} {cs : Array Value} {t : TypeId} {z : Nat × Nat} (hD : DevIn w p aa bb d K) (hB : w.heap[B]? = some (.cells cs t z)) (ht : t ≠ 65) : B ≠ p ∧ B ≠ aa ∧ B ≠ bb :=
  ⟨(fun e => by rw [e, hD.blk] at hB; simp only [Option.some.injEq, Obj.cells.injEq] at hB; exact ht hB.2.1.symm), (fun e => by obtain ⟨es, cl, hm⟩ := hD.mapA; rw [e, hm] at hB; cases hB), (fun e => by obtain ⟨es, cl, hm⟩ := hD.mapB; rw [e, hm] at hB; cases hB)⟩
/-- A device of the document's stored whole in a block of its own. -/
theorem row_fin {w V : World} {p aa bb K N : Nat} {d : Dev} {l : List RS} {a : Option Addr} {c : Nat} {old cs : Array Value} (hD : DevIn V p aa bb d K) (hl : LstS V a c l) (hf : Fd p aa bb w V) (hN : w.heap.size ≤ N) (hg : V.heap[N]? = some (.cells old 32 (0, 0))) :
    DevIn (V.setRow N cs) p aa bb d K ∧ LstS (V.setRow N cs) a c l ∧ Fd p aa bb w (V.setRow N cs) ∧ (V.setRow N cs).heap[N]? = some (.cells cs 32 (0, 0)) := by
  have hne := dev_ne hD hg (by decide)
  refine ⟨hD.keep (setRow_other V N _ cs (Ne.symm hne.1)) (setRow_other V N _ cs (Ne.symm hne.2.1)) (setRow_other V N _ cs (Ne.symm hne.2.2)), hl.stay fun k q z hk => setRow_other V N k cs (fun e => ?_), ⟨hf.os, hf.tape, hf.output, by simpa [World.setRow] using hf.size, fun k hk h1 h2 h3 => (setRow_other V N k cs (by omega)).trans (hf.block k hk h1 h2 h3)⟩, setRow_heap V N _ cs 32 (0, 0) hg⟩
  rw [e, hg] at hk
  simp only [Option.some.injEq, Obj.cells.injEq] at hk
  exact absurd hk.2.1 (by decide)
/-- .. in the block that holds one. -/
theorem six_fin {w V : World} {p aa bb K N : Nat} {d : Dev} {l : List RS} {a : Option Addr} {c : Nat} {x0 x1 x2 x3 x4 x5 : Value} (hD : DevIn V p aa bb d K) (hl : LstS V a c l) (hb : Below w.heap.size w V) (hN : w.heap.size ≤ N) (hg : V.heap[N]? = some (.cells #[x0, x1, x2, x3, x4, x5] 32 (0, 0))) (v0 v1 v2 v3 v4 v5 : Value) :
    DevIn ((((((V.setCell ⟨N, 0, none⟩ v0).setCell ⟨N, 1, none⟩ v1).setCell ⟨N, 2, none⟩ v2).setCell ⟨N, 3, none⟩ v3).setCell ⟨N, 4, none⟩ v4).setCell ⟨N, 5, none⟩ v5) p aa bb d K
    ∧ LstS ((((((V.setCell ⟨N, 0, none⟩ v0).setCell ⟨N, 1, none⟩ v1).setCell ⟨N, 2, none⟩ v2).setCell ⟨N, 3, none⟩ v3).setCell ⟨N, 4, none⟩ v4).setCell ⟨N, 5, none⟩ v5) a c l
    ∧ Below w.heap.size w ((((((V.setCell ⟨N, 0, none⟩ v0).setCell ⟨N, 1, none⟩ v1).setCell ⟨N, 2, none⟩ v2).setCell ⟨N, 3, none⟩ v3).setCell ⟨N, 4, none⟩ v4).setCell ⟨N, 5, none⟩ v5)
    ∧ ((((((V.setCell ⟨N, 0, none⟩ v0).setCell ⟨N, 1, none⟩ v1).setCell ⟨N, 2, none⟩ v2).setCell ⟨N, 3, none⟩ v3).setCell ⟨N, 4, none⟩ v4).setCell ⟨N, 5, none⟩ v5).heap[N]? = some (.cells #[v0, v1, v2, v3, v4, v5] 32 (0, 0))
    ∧ ∀ k, k ≠ N → ((((((V.setCell ⟨N, 0, none⟩ v0).setCell ⟨N, 1, none⟩ v1).setCell ⟨N, 2, none⟩ v2).setCell ⟨N, 3, none⟩ v3).setCell ⟨N, 4, none⟩ v4).setCell ⟨N, 5, none⟩ v5).heap[k]? = V.heap[k]? := by
  have hne := dev_ne hD hg (by decide)
  refine ⟨hD.keep (six_far V (Ne.symm hne.1) _ _ _ _ _ _) (six_far V (Ne.symm hne.2.1) _ _ _ _ _ _) (six_far V (Ne.symm hne.2.2) _ _ _ _ _ _), hl.stay fun k q z hk => six_far V (fun e => ?_) _ _ _ _ _ _, six_below hb hN _ _ _ _ _ _, six_heap hg _ _ _ _ _ _, fun k hk => six_far V hk _ _ _ _ _ _⟩
  rw [e, hg] at hk
  simp only [Option.some.injEq, Obj.cells.injEq] at hk
  exact absurd hk.2.1 (by decide)
/-- The first loop under way. -/
def Run1 (w : World) (R S : Int) (B7 p aa bb i : Nat) (wr : World) : Prop := ∃ d x ra rc, DevIn wr p aa bb d i ∧ wr.heap[B7]? = some (.cells (rdC x ra x.l.length rc) 32 (0, 0)) ∧ LstS wr ra rc x.l ∧ Tie d x ∧ x.l.length ≤ i ∧ (d.r = R ∧ d.s = S) ∧ wr.heap[w.heap.size]? = some (.cells #[.int .i64 R, .int .i64 S] 23 (0, 0)) ∧ Below w.heap.size w wr
theorem got_of8 {w : World} {d : Dev} {k : Pl} {c : Ct} {e : Ending} {w' : World} (h : ReadsTo w d k e w') (hr : rErr d k = 0 ∧ readD d k = c) : GotC w c e w' := by
  rcases h with ⟨_, h⟩ | ⟨h, _⟩
  · rw [hr.2] at h; exact h
  · exact absurd hr.1 h
theorem clone_reads {d : Dev} {x : RD} {ns : List Int} (h : Tie (restartD d ns) x) {y : RS} (hy : y ∈ x.l) : rErr (restartD d ns) y.key = 0 ∧ readD (restartD d ns) y.key = y.safe := by
  refine ⟨by unfold rErr; rw [if_neg (fun e => e (h.ok y hy).2.2)]; rfl, ?_⟩
  show (getP [] _).getD ((restartD d ns).safe y.key) = y.safe
  rw [h.safe, safe_of_mem h.srt hy]; rfl
theorem keeps_size (d : Dev) (k : Pl) (xs : List Nat) : (writeD (restartD d []) k xs).r = d.r ∧ (writeD (restartD d []) k xs).s = d.s := by
  unfold writeD; split <;> exact ⟨rfl, rfl⟩
/-- The device, its clone, and the document's device. -/
structure Both (w : World) (R S : Int) (M B7 p aa bb cq cx cy : Nat) (d : Dev) (K : Nat) (e : Dev) (Ke : Nat) (x : RD) (ra : Option Addr) (rc : Nat) (V : World) : Prop where
  lo : p < M ∧ aa < M ∧ bb < M ∧ B7 < M ∧ w.heap.size < M
  hi : M ≤ cq ∧ M ≤ cx ∧ M ≤ cy
  pw : w.heap.size ≤ p ∧ w.heap.size ≤ aa ∧ w.heap.size ≤ bb
  bw7 : w.heap.size < B7
  ne7 : B7 ≠ p ∧ B7 ≠ aa ∧ B7 ≠ bb
  ne2 : w.heap.size ≠ p ∧ w.heap.size ≠ aa ∧ w.heap.size ≠ bb
  dp : DevIn V p aa bb d K
  dc : DevIn V cq cx cy e Ke
  g7 : V.heap[B7]? = some (.cells (rdC x ra x.l.length rc) 32 (0, 0))
  g2 : V.heap[w.heap.size]? = some (.cells #[.int .i64 R, .int .i64 S] 23 (0, 0))
  ls : LstS V ra rc x.l
  bw : Below w.heap.size w V
section
variable {w : World} {R S : Int} {M B7 p aa bb cq cx cy : Nat} {d : Dev} {K : Nat} {e : Dev} {Ke : Nat} {x : RD} {ra : Option Addr} {rc : Nat} {V V' : World}
theorem Both.on (h : Both w R S M B7 p aa bb cq cx cy d K e Ke x ra rc V) (hb : Below V.heap.size V V') : Both w R S M B7 p aa bb cq cx cy d K e Ke x ra rc V' :=
  ⟨h.lo, h.hi, h.pw, h.bw7, h.ne7, h.ne2, h.dp.on hb, h.dc.on hb, (hb.block _ (blk_lt h.g7)).trans h.g7, (hb.block _ (blk_lt h.g2)).trans h.g2, h.ls.on hb, below_step h.bw hb⟩
theorem Both.fdp (h : Both w R S M B7 p aa bb cq cx cy d K e Ke x ra rc V) {d' : Dev} {K' : Nat} (hf : Fd p aa bb V V') (hd : DevIn V' p aa bb d' K') : Both w R S M B7 p aa bb cq cx cy d' K' e Ke x ra rc V' := by
  have l := h.dc.lts
  have h1 := h.lo
  have h2 := h.hi
  exact ⟨h.lo, h.hi, h.pw, h.bw7, h.ne7, h.ne2, hd, h.dc.keep (hf.block _ l.1 (by omega) (by omega) (by omega)) (hf.block _ l.2.1 (by omega) (by omega) (by omega)) (hf.block _ l.2.2 (by omega) (by omega) (by omega)), (hf.block _ (blk_lt h.g7) h.ne7.1 h.ne7.2.1 h.ne7.2.2).trans h.g7, (hf.block _ (blk_lt h.g2) h.ne2.1 h.ne2.2.1 h.ne2.2.2).trans h.g2, h.ls.fd h.dp hf, h.bw.trans (hf.below h.bw.size h.pw.1 h.pw.2.1 h.pw.2.2)⟩
theorem Both.fdc (h : Both w R S M B7 p aa bb cq cx cy d K e Ke x ra rc V) {e' : Dev} {K' : Nat} (hf : Fd cq cx cy V V') (hd : DevIn V' cq cx cy e' K') : Both w R S M B7 p aa bb cq cx cy d K e' K' x ra rc V' := by
  have l := h.dp.lts
  have h1 := h.lo
  have h2 := h.hi
  exact ⟨h.lo, h.hi, h.pw, h.bw7, h.ne7, h.ne2, h.dp.keep (hf.block _ l.1 (by omega) (by omega) (by omega)) (hf.block _ l.2.1 (by omega) (by omega) (by omega)) (hf.block _ l.2.2 (by omega) (by omega) (by omega)), hd, (hf.block _ (blk_lt h.g7) (by omega) (by omega) (by omega)).trans h.g7, (hf.block _ (blk_lt h.g2) (by omega) (by omega) (by omega)).trans h.g2, h.ls.fd h.dc hf, h.bw.trans (hf.below h.bw.size (by omega) (by omega) (by omega))⟩
theorem Both.six (h : Both w R S M B7 p aa bb cq cx cy d K e Ke x ra rc V) (y : RD) (a' : Option Addr) (c' : Nat) (hl : LstS V a' c' y.l) :
    Both w R S M B7 p aa bb cq cx cy d K e Ke y a' c' ((((((V.setCell ⟨B7, 0, none⟩ (.int .i64 y.r)).setCell ⟨B7, 1, none⟩ (.int .i64 y.s)).setCell ⟨B7, 2, none⟩ (.slice a' y.l.length c')).setCell ⟨B7, 3, none⟩ (.bool y.crashed)).setCell ⟨B7, 4, none⟩ (.bool y.armed)).setCell ⟨B7, 5, none⟩ (.int .i64 y.left)) := by
  have h1 := h.lo
  have h2 := h.hi
  have hf := six_fin (w := w) h.dp hl h.bw (Nat.le_of_lt h.bw7) h.g7 (.int .i64 y.r) (.int .i64 y.s) (.slice a' y.l.length c') (.bool y.crashed) (.bool y.armed) (.int .i64 y.left)
  have h3 := h.bw7
  exact ⟨h.lo, h.hi, h.pw, h.bw7, h.ne7, h.ne2, hf.1, h.dc.keep (hf.2.2.2.2 _ (by omega)) (hf.2.2.2.2 _ (by omega)) (hf.2.2.2.2 _ (by omega)), hf.2.2.2.1, (hf.2.2.2.2 _ (by omega)).trans h.g2, hf.2.1, hf.2.2.1⟩
end
set_option maxRecDepth 100000 in
set_option maxHeartbeats 2000000 in
theorem runs_bad (R S : Int) (a : Option Addr) (n c : Nat) (w : World) (hE : ErrType w) (h : ¬ (1 ≤ R ∧ R ≤ 16 ∧ 1 ≤ S ∧ S ≤ 16384)) :
    Calls Tryd.prog 3 #[.agg #[.int .i64 R, .int .i64 S], .slice a n c] w fun e w' => e = .returned (.bool true) ∧ Below w.heap.size w w' := by
  obtain ⟨W, hW⟩ : ∃ W, W = w.alloc (.cells #[.int .i64 R, .int .i64 S] 23) := ⟨_, rfl⟩
  have HB : Hid (Below w.heap.size w W) := by rw [hW]; exact below_alloc w _
  have hg := alloc_at w (.cells #[.int .i64 R, .int .i64 S] 23)
  rw [← hW] at hg
  have HG := Lib.hid hg
  have HW := Lib.hid hW
  have HN := Lib.hid (new_bad R S W h)
  have HR := Lib.hid (rnew_bad R S W h)
  have HE := Lib.hid hE
  generalize hev : errE 1 = ev at *
  have HEV := Lib.hid hev
  clear h hW hg hE hev
  go_enter Tryd.func3, Tryd.ntmps3
  go_wp2_with fail
  rw [← HW.out]
  refine HN.out.mono ?_
  rintro e W1 ⟨rfl, hw1⟩
  obtain rfl : W = W1 := hw1.symm
  have c0 : W.cell? ⟨w.heap.size, 0, none⟩ = some (.int .i64 R) := cell_of HG.out rfl
  have c1 : W.cell? ⟨w.heap.size, 1, none⟩ = some (.int .i64 S) := cell_of HG.out rfl
  clear HN hw1 HW
  go_wp2_with fail
  refine HR.out.mono ?_
  rintro e w2 ⟨rfl, hb2⟩
  have HB2 := Lib.hid (below_step HB.out (below_step hb2 (below_alloc w2 (.cells #[.int .i64 0, .int .i64 0, .slice none 0 0, .bool false, .bool false, .int .i64 0] 32))))
  have HNm : Hid (∀ U, Below w.heap.size w U → Calls Tryd.prog 8 #[ev] U fun e w' => e = .returned (.int .i64 1) ∧ Below U.heap.size U w') := fun U hU => by rw [← HEV.out]; exact num_ 1 U (HE.out.on hU)
  clear hb2 c0 c1 HR
  go_wp2_with fail
  refine (HNm.out _ HB2.out).mono ?_
  rintro e w3 ⟨rfl, hb3⟩
  have HB3 := Lib.hid (below_step HB2.out hb3)
  clear hb3
  go_wp2_with fail
  refine (sure_ _).mono ?_
  rintro e w4 ⟨rfl, hb4⟩
  have HB4 := Lib.hid (below_step HB3.out hb4)
  clear hb4
  go_wp2_with fail
  go_ret
  exact ⟨rfl, HB4.out⟩
set_option maxRecDepth 100000 in
set_option maxHeartbeats 8000000 in
theorem runs_ok (R S : Int) (a : Option Addr) (n c : Nat) (f : Nat → ActV) (w : World) (hin : ActsAt w a n f) (hlim : ∀ i, i < n → (f i).dxs.length ≤ 140737488351232 ∧ (f i).cs.length * 8 ≤ 140737488351232) (hE : ErrType w) (h : 1 ≤ R ∧ R ≤ 16 ∧ 1 ≤ S ∧ S ≤ 16384) :
    Calls Tryd.prog 3 #[.agg #[.int .i64 R, .int .i64 S], .slice a n c] w fun e w' => e = .returned (.bool true) ∧ Below w.heap.size w w' := by
  obtain ⟨W, hW⟩ : ∃ W, W = w.alloc (.cells #[.int .i64 R, .int .i64 S] 23) := ⟨_, rfl⟩
  have HB : Hid (Below w.heap.size w W) := by rw [hW]; exact below_alloc w _
  have hg := alloc_at w (.cells #[.int .i64 R, .int .i64 S] 23)
  rw [← hW] at hg
  have HG := Lib.hid hg
  have HW := Lib.hid hW
  have HN := Lib.hid (new_x R S W h)
  have HR : Hid (∀ V : World, Calls Tryd.prog 7 #[.int .i64 R, .int .i64 S] V fun e w' => e = .returned (.tuple #[rdV (newR R S) none 0, .int .i64 0]) ∧ Below V.heap.size V w') := fun V => rnew_ R S V h
  have HE := Lib.hid hE
  have HI := Lib.hid hin
  have HLm := Lib.hid hlim
  clear h hW hg hE hin hlim
  go_enter Tryd.func3, Tryd.ntmps3
  go_wp2_with fail
  rw [← HW.out]
  refine HN.out.mono ?_
  rintro e w1 ⟨p, aa, bb, rfl, hlo, hb1, hd1⟩
  have hsW := HB.out.size
  have hg1 := (hb1.block _ (blk_lt HG.out)).trans HG.out
  have HG1 := Lib.hid hg1
  have HB1 := Lib.hid (below_step HB.out hb1)
  have HD1 := Lib.hid hd1
  have c0 : w1.cell? ⟨w.heap.size, 0, none⟩ = some (.int .i64 R) := cell_of hg1 rfl
  have c1 : w1.cell? ⟨w.heap.size, 1, none⟩ = some (.int .i64 S) := cell_of hg1 rfl
  have hpw : w.heap.size ≤ p ∧ w.heap.size ≤ aa ∧ w.heap.size ≤ bb := by omega
  clear HN hd1 hb1 hg1 HB HG HW hlo
  go_wp2_with fail
  refine (HR.out w1).mono ?_
  rintro e w2 ⟨rfl, hb2⟩
  unfold rdV rdC newR
  dsimp only [List.length_nil]
  obtain ⟨V, hV⟩ : ∃ V, V = w2.alloc (.cells #[.int .i64 R, .int .i64 S, .slice none 0 0, .bool false, .bool false, .int .i64 0] 32) := ⟨_, rfl⟩
  obtain ⟨B7, hB7⟩ : ∃ B7, B7 = w2.heap.size := ⟨_, rfl⟩
  have hV7 : V.heap[B7]? = some (.cells #[.int .i64 R, .int .i64 S, .slice none 0 0, .bool false, .bool false, .int .i64 0] 32 (0, 0)) := by rw [hV, hB7]; exact alloc_at w2 _
  have hBV : Below w2.heap.size w2 V := by rw [hV]; exact below_alloc w2 _
  have hb12 := below_step hb2 hBV
  have H1 : Hid (Run1 w R S B7 p aa bb 0 V) := ⟨_, newR R S, none, 0, HD1.out.on hb12, hV7, lstS_nil _, tie_new R S, Nat.le_refl _, ⟨rfl, rfl⟩, (hb12.block _ (blk_lt HG1.out)).trans HG1.out, below_step HB1.out hb12⟩
  have HV := Lib.hid hV
  have HB7 := Lib.hid hB7
  have hwB : w.heap.size < B7 := by rw [hB7]; have := blk_lt HG1.out; have := hb2.size; omega
  clear hb2 hV hB7 hV7 hBV hb12 c0 c1 HR HD1 HB1 HG1 hsW
  go_wp2_with fail
  rw [← HV.out, ← HB7.out]
  clear HV HB7
  go_loopw [9, 10, 11] (fun iv _ _ wr => ∃ i : Nat, iv = .int .i64 i ∧ i ≤ n ∧ i ≤ 150 ∧ Hid (Run1 w R S B7 p aa bb i wr)) (fun iv _ _ _ => 150 - (intOf iv).toNat)
  case atStart => exact ⟨0, rfl, by omega, by omega, H1⟩
  case round =>
    obtain ⟨i, rfl, hin, hi150, HS⟩ := hrel
    by_cases hgo : i < n ∧ i < 150
    · have q1 : decide ((i : Int) < (n : Int)) = true := decide_eq_true (by omega)
      have q2 : decide ((i : Int) < 150) = true := decide_eq_true (by omega)
      have q3 : (0 : Int) ≤ (i : Int) := by omega
      have q4 : (i : Int) < (n : Int) := by omega
      obtain ⟨d, x, ra, rc, hd, hg7, hls, htie, hxl, hrs, hg2, hb⟩ := HS.out
      obtain ⟨b, o, hab, hx⟩ := HI.out i hgo.1
      subst hab
      have hx' := hx.on hb
      have hbw : b < w.heap.size := block_lt_of_cell hx.c0
      have hlm := HLm.out i hgo.1
      have hst : ∀ V, Below wr.heap.size wr V → Calls Tryd.prog 10 #[.pointer (some ⟨p, 0, none⟩), rdV x ra rc, actV (f i)] V (SteppedTo V p aa bb i d x) := fun V hV => step_ (w0 := w) ⟨hd.on hV, hls.on hV, htie, by omega, by omega, below_step hb hV, ⟨by omega, by omega, by omega⟩, HE.out, hx.data, hx.dn, hx.byte, hlm.1, hx.ints, hx.cn, hlm.2⟩ hx.ai
      have HSt := Lib.hid hst
      have hne := dev_ne hd hg7 (by decide)
      have hne2 := dev_ne hd hg2 (by decide)
      have F0 : Hid (∀ V, Fd p aa bb wr V → V.cell? ⟨b, o + i * 5, none⟩ = some (.int .i64 (f i).kind)) := fun V hV => hV.cell hd hx'.c0 (by omega)
      have F1 : Hid (∀ V, Fd p aa bb wr V → V.cell? ⟨b, o + i * 5 + 1, none⟩ = some (.int .i64 (f i).region)) := fun V hV => hV.cell hd hx'.c1 (by omega)
      have F2 : Hid (∀ V, Fd p aa bb wr V → V.cell? ⟨b, o + i * 5 + 2, none⟩ = some (.int .i64 (f i).at')) := fun V hV => hV.cell hd hx'.c2 (by omega)
      have F3 : Hid (∀ V, Fd p aa bb wr V → V.cell? ⟨b, o + i * 5 + 3, none⟩ = some (.slice (f i).da (f i).dxs.length (f i).dc)) := fun V hV => hV.cell hd hx'.c3 (by omega)
      have F4 : Hid (∀ V, Fd p aa bb wr V → V.cell? ⟨b, o + i * 5 + 4, none⟩ = some (.slice (f i).ca (f i).cs.length (f i).cc)) := fun V hV => hV.cell hd hx'.c4 (by omega)
      have F5 : Hid (∀ V, Below w.heap.size w V → V.cell? ⟨b, o + i * 5 + 1, none⟩ = some (.int .i64 (f i).region)) := fun V hV => (hx.on hV).c1
      unfold actV at HSt
      have HX : Hid ((d.r = R ∧ d.s = S) ∧ x.l.length ≤ i ∧ wr.heap[w.heap.size]? = some (.cells #[.int .i64 R, .int .i64 S] 23 (0, 0)) ∧ Below w.heap.size w wr ∧ (B7 ≠ p ∧ B7 ≠ aa ∧ B7 ≠ bb) ∧ (w.heap.size ≠ p ∧ w.heap.size ≠ aa ∧ w.heap.size ≠ bb) ∧ B7 < wr.heap.size) := ⟨hrs, hxl, hg2, hb, hne, hne2, blk_lt hg7⟩
      have HG7 := Lib.hid hg7
      obtain ⟨r, s, l, cr, ar, lf⟩ := x
      unfold rdC at HG7
      unfold rdV rdC at HSt
      dsimp only at HG7 HSt HX
      have GL : Hid (∀ U, Fd p aa bb wr U → (Instr.loadAt 32 (.pointer (some ⟨B7, 0, none⟩))).run Tryd.prog U = .ok (.agg #[.int .i64 r, .int .i64 s, .slice ra l.length rc, .bool cr, .bool ar, .int .i64 lf]) U) := fun U hU => load_rd ((hU.block _ (blk_lt HG7.out) HX.out.2.2.2.2.1.1 HX.out.2.2.2.2.1.2.1 HX.out.2.2.2.2.1.2.2).trans HG7.out) rfl
      generalize (f i).kind = kd at *
      generalize (f i).region = g at *
      generalize (f i).at' = at' at *
      generalize (f i).da = da at *
      generalize (f i).dxs.length = dn at *
      generalize (f i).dc = dc at *
      generalize (f i).ca = ca at *
      generalize (f i).cs.length = cn at *
      generalize (f i).cc = cc at *
      generalize hLl : l.length = L at *
      have HLl := Lib.hid hLl
      clear hLl
      have HX2 : Hid (∀ k, wr.heap.size ≤ k → k ≠ p ∧ k ≠ aa ∧ k ≠ bb) := fun k hk => by have := hd.lts; omega
      clear hd hg7 hls htie hxl hrs hg2 hb hx hx' hst hlm HS hne hne2
      go_wp2_with fail
      refine wp_region_noPanic ?_
      refine wp_region_held_drew (S := fun V => Fd p aa bb wr V) (by kernel_rfl) (below_fd (below_drew _) _ _ _) (fun hHeld => ?_)
      refine take_at 0 (.pointer (some ⟨p, 0, none⟩)) rfl (by kernel_rfl) (by kernel_rfl) (by kernel_rfl) (fun _ _ _ h => h) (Or.inl ⟨by rfl, ?_⟩) (by assumption) ?_
      · intro V hSV; go_simp
      simp only [Act.put, List.setIfInBounds_toArray, List.set_cons_zero, List.set_cons_succ]
      refine take_at 1 (.agg #[.int .i64 r, .int .i64 s, .slice ra L rc, .bool cr, .bool ar, .int .i64 lf]) rfl (by kernel_rfl) (by kernel_rfl) (by kernel_rfl) (fun _ _ _ h => h) (yields_load (by rfl) 32 _ (by rfl) _ _ (by rfl) (GL.out)) (by assumption) ?_
      simp only [Act.put, List.setIfInBounds_toArray, List.set_cons_zero, List.set_cons_succ]
      refine take_at 2 (.slice (some ⟨b, o, none⟩) n c) rfl (by kernel_rfl) (by kernel_rfl) (by kernel_rfl) (fun _ _ _ h => h) (Or.inl ⟨by rfl, ?_⟩) (by assumption) ?_
      · intro V hSV; go_simp
      simp only [Act.put, List.setIfInBounds_toArray, List.set_cons_zero, List.set_cons_succ]
      refine take_at 3 (.int .i64 i) rfl (by kernel_rfl) (by kernel_rfl) (by kernel_rfl) (fun _ _ _ h => h) (Or.inl ⟨by rfl, ?_⟩) (by assumption) ?_
      · intro V hSV; go_simp
      simp only [Act.put, List.setIfInBounds_toArray, List.set_cons_zero, List.set_cons_succ]
      refine take_at 4 (.pointer (some ⟨b, o + i * 5, none⟩)) rfl (by kernel_rfl) (by kernel_rfl) (by kernel_rfl) (fun _ _ _ h => h) (Or.inl ⟨by rfl, ?_⟩) (by assumption) ?_
      · intro V hSV; go_simp
      simp only [Act.put, List.setIfInBounds_toArray, List.set_cons_zero, List.set_cons_succ]
      refine take_at 5 (.agg #[.int .i64 kd, .int .i64 g, .int .i64 at', .slice da dn dc, .slice ca cn cc]) rfl (by kernel_rfl) (by kernel_rfl) (by kernel_rfl) (fun _ _ _ h => h) (Or.inl ⟨by rfl, ?_⟩) (by assumption) ?_
      · intro V hSV; have e0 := F0.out V hSV; have e1 := F1.out V hSV; have e2 := F2.out V hSV; have e3 := F3.out V hSV; have e4 := F4.out V hSV; go_simp
      simp only [Act.put, List.setIfInBounds_toArray, List.set_cons_zero, List.set_cons_succ]
      refine wpAnyH_ready (rs := [6, 10]) (by kernel_rfl) (by simp) ?_
      refine AllReadyH.cons rfl (fun KK hK => ?_) (AllReadyH.cons rfl (fun KK hK => ?_) AllReadyH.nil)
      · go_simp
        go_wp2_with (first | (go_at_call 10; refine (HSt.out _ (below_drew _)).mono ?_; rintro e U2 ⟨d', x', a', c', rfl, hD2, hL2, hF2, hT2, hl2, hr2, hs2⟩))
        refine hK.out _ _ ?_ (fun hHeld6 => ?_)
        · exact Fd.trans (below_fd (below_drew _) _ _ _) hF2
        clear hK KK
        obtain ⟨r', s', l', cr', ar', lf'⟩ := x'
        unfold rdV rdC
        dsimp only at hT2 hL2 hl2 ⊢
        generalize hL' : l'.length = L' at *
        have HT2 := Lib.hid (And.intro hT2 (And.intro hl2 (And.intro hr2 (And.intro hs2 hL'))))
        clear hT2 hl2 hr2 hs2 hL'
        have hS10 : Fd p aa bb wr (U2.alloc (.cells #[.int .i64 0, .int .i64 0, .slice none 0 0, .bool false, .bool false, .int .i64 0] 32)) := hHeld6.trans (below_fd (below_alloc _ _) _ _ _)
        have hz10 := alloc_at U2 (.cells #[.int .i64 0, .int .i64 0, .slice none 0 0, .bool false, .bool false, .int .i64 0] 32)
        have hfin := row_fin (cs := #[.int .i64 r', .int .i64 s', .slice a' L' c', .bool cr', .bool ar', .int .i64 lf']) (hD2.on (below_alloc U2 (.cells #[.int .i64 0, .int .i64 0, .slice none 0 0, .bool false, .bool false, .int .i64 0] 32))) (hL2.on (below_alloc U2 _)) hS10 hHeld6.size hz10
        have hst := store_rd (cs := #[.int .i64 r', .int .i64 s', .slice a' L' c', .bool cr', .bool ar', .int .i64 lf']) hz10 rfl rfl (six_one _ _ _ _ _ _ _ _)
        have hS11 := hfin.2.2.1
        have HU := Lib.hid (And.intro hfin (Nat.lt_of_lt_of_le HX.out.2.2.2.2.2.2 hHeld6.size))
        clear hfin hz10 hD2 hL2 hF2
        refine take_at 7 (.tuple #[.agg #[.int .i64 r', .int .i64 s', .slice a' L' c', .bool cr', .bool ar', .int .i64 lf'], .bool true]) rfl (by kernel_rfl) (by kernel_rfl) (by kernel_rfl) (fun _ _ _ h => h) (Or.inl ⟨by rfl, ?_⟩) (by assumption) ?_
        · intro V hSV; go_simp
        simp only [Act.put, List.setIfInBounds_toArray, List.set_cons_zero, List.set_cons_succ]
        refine take_at 8 (.agg #[.int .i64 r', .int .i64 s', .slice a' L' c', .bool cr', .bool ar', .int .i64 lf']) rfl (by kernel_rfl) (by kernel_rfl) (by kernel_rfl) (fun _ _ _ h => h) (Or.inl ⟨by rfl, ?_⟩) (by assumption) ?_
        · intro V hSV; go_simp
        simp only [Act.put, List.setIfInBounds_toArray, List.set_cons_zero, List.set_cons_succ]
        refine take_at 9 (.bool true) rfl (by kernel_rfl) (by kernel_rfl) (by kernel_rfl) (fun _ _ _ h => h) (Or.inl ⟨by rfl, ?_⟩) (by assumption) ?_
        · intro V hSV; go_simp
        simp only [Act.put, List.setIfInBounds_toArray, List.set_cons_zero, List.set_cons_succ]
        refine ready_alloc_rd 10 rfl (by kernel_rfl) (by rfl) (by rfl) hS10 ?_
        refine ready_store 11 rfl (by kernel_rfl) (by rfl) 32 _ _ (by rfl) _ _ (by rfl) (by rfl) hst hS11 ?_
        refine take_at 12 (.bool true) rfl (by kernel_rfl) (by kernel_rfl) (by kernel_rfl) (fun _ _ _ h => h) (Or.inl ⟨by rfl, ?_⟩) (by assumption) ?_
        · intro V hSV; go_simp
        simp only [Act.put, List.setIfInBounds_toArray, List.set_cons_zero, List.set_cons_succ]
        refine wpAnyH_done (by kernel_rfl) ?_ _
        refine NoPanic.normal ?_
        clear hst hS10 hS11 hHeld hHeld6 HSt GL
        generalize (U2.alloc (.cells #[.int .i64 0, .int .i64 0, .slice none 0 0, .bool false, .bool false, .int .i64 0] 32)).setRow U2.heap.size #[.int .i64 r', .int .i64 s', .slice a' L' c', .bool cr', .bool ar', .int .i64 lf'] = U5 at *
        generalize U2.heap.size = B10 at *
        have hB5 : Below w.heap.size w U5 := HX.out.2.2.2.1.trans (HU.out.1.2.2.1.below (N := w.heap.size) HX.out.2.2.2.1.size hpw.1 hpw.2.1 hpw.2.2)
        have hg10 := HU.out.1.2.2.2
        have hg7 := (HU.out.1.2.2.1.block _ (blk_lt HG7.out) HX.out.2.2.2.2.1.1 HX.out.2.2.2.2.1.2.1 HX.out.2.2.2.2.1.2.2).trans HG7.out
        have hg2 := (HU.out.1.2.2.1.block _ (blk_lt HX.out.2.2.1) HX.out.2.2.2.2.2.1.1 HX.out.2.2.2.2.2.1.2.1 HX.out.2.2.2.2.2.1.2.2).trans HX.out.2.2.1
        obtain ⟨c0, c1, c2, c3, c4, c5⟩ := rd_cells hg10
        obtain ⟨d0, d1, d2, d3, d4, d5⟩ := rd_cells hg7
        have FZ := Lib.hid (fun o => frozen_of (o := o) hg7)
        have z0 := FZ.out 0
        have z1 := FZ.out 1
        have z2 := FZ.out 2
        have z3 := FZ.out 3
        have z4 := FZ.out 4
        have z5 := FZ.out 5
        have hfin := six_fin (w := w) HU.out.1.1 HU.out.1.2.1 hB5 (Nat.le_of_lt hwB) hg7 (.int .i64 r') (.int .i64 s') (.slice a' L' c') (.bool cr') (.bool ar') (.int .i64 lf')
        have hg26 := (hfin.2.2.2.2 _ (by omega)).trans hg2
        have HV6 := Lib.hid (And.intro hfin hg26)
        have hBB : B7 < B10 := HU.out.2
        clear hB5 hg10 hg7 hg2 FZ hfin hg26 HU
        go_wp2_with fail
        clear c0 c1 c2 c3 c4 c5 d0 d1 d2 d3 d4 d5 z0 z1 z2 z3 z4 z5
        generalize ((((((U5.setCell ⟨B7, 0, none⟩ (.int .i64 r')).setCell ⟨B7, 1, none⟩ (.int .i64 s')).setCell ⟨B7, 2, none⟩ (.slice a' L' c')).setCell ⟨B7, 3, none⟩ (.bool cr')).setCell ⟨B7, 4, none⟩ (.bool ar')).setCell ⟨B7, 5, none⟩ (.int .i64 lf')) = U6 at *
        have hcrT : cr' = d'.crashed := HT2.out.1.cr
        have hlen : l'.length ≤ 1000 := by have := HT2.out.2.1; have := HX.out.2.1; have := HT2.out.2.2.2.2; have := HLl.out; omega
        have HCr : Hid (∀ U, Below U6.heap.size U6 U → Calls Tryd.prog 11 #[.pointer (some ⟨p, 0, none⟩)] U fun e w' => e = .returned (.bool cr') ∧ Below U.heap.size U w') := fun U hU => (crashed_ (HV6.out.1.1.on hU)).mono fun e w' ⟨h1, h2⟩ => ⟨by rw [h1, hcrT], by rw [h2]; exact Below.refl _ _⟩
        have HPd : Hid (∀ U, Below U6.heap.size U6 U → Calls Tryd.prog 13 #[.pointer (some ⟨p, 0, none⟩), .int .i64 g] U fun e w' => (∃ a' c', e = .returned (.slice a' (pendD d' g).length c') ∧ IntsIn w' a' (pendD d' g)) ∧ Below U.heap.size U w') := fun U hU => dpend_ (HV6.out.1.1.on hU) g
        have HPr : Hid (∀ U, Below U6.heap.size U6 U → Calls Tryd.prog 14 #[.agg #[.int .i64 r', .int .i64 s', .slice a' L' c', .bool cr', .bool ar', .int .i64 lf'], .int .i64 g] U fun e w' => (∃ a' c', e = .returned (.slice a' (pendD d' g).length c') ∧ IntsIn w' a' (pendD d' g)) ∧ Below U.heap.size U w') := fun U hU => by
          have := rpendT ⟨r', s', l', cr', ar', lf'⟩ d' g (HV6.out.1.2.1.on hU) HT2.out.1 hlen
          unfold rdV rdC at this
          dsimp only at this
          rw [HT2.out.2.2.2.2] at this
          exact this
        have hkl : (pendD d' g).length ≤ 1000000 := by
          rw [tie_pend HT2.out.1]
          have := pendS8_len g l'
          unfold pendS8 at this
          show (List.map _ (List.filter _ l')).length ≤ _
          omega
        have G3 : Hid (∀ U, Below U6.heap.size U6 U → U.cell? ⟨B7, 3, none⟩ = some (.bool cr')) := fun U hU => cell_of ((hU.block _ (blk_lt HV6.out.1.2.2.2.1)).trans HV6.out.1.2.2.2.1) rfl
        have GL7 : Hid (∀ U, Below U6.heap.size U6 U → (Instr.loadAt 32 (.pointer (some ⟨B7, 0, none⟩))).run Tryd.prog U = .ok (.agg #[.int .i64 r', .int .i64 s', .slice a' L' c', .bool cr', .bool ar', .int .i64 lf']) U) := fun U hU => load_rd ((hU.block _ (blk_lt HV6.out.1.2.2.2.1)).trans HV6.out.1.2.2.2.1) rfl
        have GA : Hid (∀ U, Below U6.heap.size U6 U → U.cell? ⟨b, o + i * 5 + 1, none⟩ = some (.int .i64 g)) := fun U hU => F5.out U (below_step HV6.out.1.2.2.1 hU)
        clear hcrT
        generalize pendD d' g = ks at *
        generalize hkn : ks.length = kn at *
        have HKN := Lib.hid hkn
        clear hkn
        refine wp_region_noPanic ?_
        refine wp_region_held_drew (S := fun U => Below U6.heap.size U6 U) (by kernel_rfl) (below_drew _) (fun hHeld => ?_)
        refine take_at 0 (.bool true) rfl (by kernel_rfl) (by kernel_rfl) (by kernel_rfl) (fun _ _ _ h => h) (Or.inl ⟨by rfl, ?_⟩) (by assumption) ?_
        · intro V hSV; go_simp
        simp only [Act.put, List.setIfInBounds_toArray, List.set_cons_zero, List.set_cons_succ]
        refine take_at 1 (.bool false) rfl (by kernel_rfl) (by kernel_rfl) (by kernel_rfl) (fun _ _ _ h => h) (Or.inl ⟨by rfl, ?_⟩) (by assumption) ?_
        · intro V hSV; go_simp
        simp only [Act.put, List.setIfInBounds_toArray, List.set_cons_zero, List.set_cons_succ]
        refine take_at 2 (.bool false) rfl (by kernel_rfl) (by kernel_rfl) (by kernel_rfl) (fun _ _ _ h => h) (Or.inl ⟨by rfl, ?_⟩) (by assumption) ?_
        · intro V hSV; go_simp
        simp only [Act.put, List.setIfInBounds_toArray, List.set_cons_zero, List.set_cons_succ]
        refine take_at 3 (.pointer (some ⟨p, 0, none⟩)) rfl (by kernel_rfl) (by kernel_rfl) (by kernel_rfl) (fun _ _ _ h => h) (Or.inl ⟨by rfl, ?_⟩) (by assumption) ?_
        · intro V hSV; go_simp
        simp only [Act.put, List.setIfInBounds_toArray, List.set_cons_zero, List.set_cons_succ]
        refine take_at 5 (.pointer (some ⟨B7, 3, none⟩)) rfl (by kernel_rfl) (by kernel_rfl) (by kernel_rfl) (fun _ _ _ h => h) (Or.inl ⟨by rfl, ?_⟩) (by assumption) ?_
        · intro V hSV; go_simp
        simp only [Act.put, List.setIfInBounds_toArray, List.set_cons_zero, List.set_cons_succ]
        refine take_at 6 (.bool cr') rfl (by kernel_rfl) (by kernel_rfl) (by kernel_rfl) (fun _ _ _ h => h) (Or.inl ⟨by rfl, ?_⟩) (by assumption) ?_
        · intro V hSV; have e0 := G3.out V hSV; go_simp
        simp only [Act.put, List.setIfInBounds_toArray, List.set_cons_zero, List.set_cons_succ]
        refine wpAnyH_ready (rs := [4]) (by kernel_rfl) (by simp) ?_
        refine AllReadyH.cons rfl (fun KK hK => ?_) AllReadyH.nil
        go_simp
        go_wp2_with (first | (go_at_call 11; refine (HCr.out _ (below_drew _)).mono ?_; rintro e U7 ⟨rfl, hb7⟩))
        refine hK.out _ _ ?_ (fun hHeld4 => ?_)
        · exact below_step (by assumption) hb7
        clear hK KK
        refine take_at 7 (.bool false) rfl (by kernel_rfl) (by kernel_rfl) (by kernel_rfl) (fun _ _ _ h => h) (Or.inl ⟨by rfl, ?_⟩) (by assumption) ?_
        · intro V hSV; go_simp
        simp only [Act.put, List.setIfInBounds_toArray, List.set_cons_zero, List.set_cons_succ]
        refine take_at 8 (.bool false) rfl (by kernel_rfl) (by kernel_rfl) (by kernel_rfl) (fun _ _ _ h => h) (Or.inl ⟨by rfl, ?_⟩) (by assumption) ?_
        · intro V hSV; go_simp
        simp only [Act.put, List.setIfInBounds_toArray, List.set_cons_zero, List.set_cons_succ]
        refine take_at 9 (.bool false) rfl (by kernel_rfl) (by kernel_rfl) (by kernel_rfl) (fun _ _ _ h => h) (Or.inl ⟨by rfl, ?_⟩) (by assumption) ?_
        · intro V hSV; go_simp
        simp only [Act.put, List.setIfInBounds_toArray, List.set_cons_zero, List.set_cons_succ]
        refine take_at 10 (.pointer (some ⟨p, 0, none⟩)) rfl (by kernel_rfl) (by kernel_rfl) (by kernel_rfl) (fun _ _ _ h => h) (Or.inl ⟨by rfl, ?_⟩) (by assumption) ?_
        · intro V hSV; go_simp
        simp only [Act.put, List.setIfInBounds_toArray, List.set_cons_zero, List.set_cons_succ]
        refine take_at 11 (.slice (some ⟨b, o, none⟩) n c) rfl (by kernel_rfl) (by kernel_rfl) (by kernel_rfl) (fun _ _ _ h => h) (Or.inl ⟨by rfl, ?_⟩) (by assumption) ?_
        · intro V hSV; go_simp
        simp only [Act.put, List.setIfInBounds_toArray, List.set_cons_zero, List.set_cons_succ]
        refine take_at 12 (.int .i64 i) rfl (by kernel_rfl) (by kernel_rfl) (by kernel_rfl) (fun _ _ _ h => h) (Or.inl ⟨by rfl, ?_⟩) (by assumption) ?_
        · intro V hSV; go_simp
        simp only [Act.put, List.setIfInBounds_toArray, List.set_cons_zero, List.set_cons_succ]
        refine take_at 13 (.pointer (some ⟨b, o + i * 5, none⟩)) rfl (by kernel_rfl) (by kernel_rfl) (by kernel_rfl) (fun _ _ _ h => h) (Or.inl ⟨by rfl, ?_⟩) (by assumption) ?_
        · intro V hSV; go_simp
        simp only [Act.put, List.setIfInBounds_toArray, List.set_cons_zero, List.set_cons_succ]
        refine take_at 14 (.pointer (some ⟨b, o + i * 5 + 1, none⟩)) rfl (by kernel_rfl) (by kernel_rfl) (by kernel_rfl) (fun _ _ _ h => h) (Or.inl ⟨by rfl, ?_⟩) (by assumption) ?_
        · intro V hSV; go_simp
        simp only [Act.put, List.setIfInBounds_toArray, List.set_cons_zero, List.set_cons_succ]
        refine take_at 15 (.int .i64 g) rfl (by kernel_rfl) (by kernel_rfl) (by kernel_rfl) (fun _ _ _ h => h) (Or.inl ⟨by rfl, ?_⟩) (by assumption) ?_
        · intro V hSV; have e0 := GA.out V hSV; go_simp
        simp only [Act.put, List.setIfInBounds_toArray, List.set_cons_zero, List.set_cons_succ]
        refine take_at 17 (.agg #[.int .i64 r', .int .i64 s', .slice a' L' c', .bool cr', .bool ar', .int .i64 lf']) rfl (by kernel_rfl) (by kernel_rfl) (by kernel_rfl) (fun _ _ _ h => h) (yields_load (by rfl) 32 _ (by rfl) _ _ (by rfl) (GL7.out)) (by assumption) ?_
        simp only [Act.put, List.setIfInBounds_toArray, List.set_cons_zero, List.set_cons_succ]
        refine take_at 18 (.slice (some ⟨b, o, none⟩) n c) rfl (by kernel_rfl) (by kernel_rfl) (by kernel_rfl) (fun _ _ _ h => h) (Or.inl ⟨by rfl, ?_⟩) (by assumption) ?_
        · intro V hSV; go_simp
        simp only [Act.put, List.setIfInBounds_toArray, List.set_cons_zero, List.set_cons_succ]
        refine take_at 19 (.int .i64 i) rfl (by kernel_rfl) (by kernel_rfl) (by kernel_rfl) (fun _ _ _ h => h) (Or.inl ⟨by rfl, ?_⟩) (by assumption) ?_
        · intro V hSV; go_simp
        simp only [Act.put, List.setIfInBounds_toArray, List.set_cons_zero, List.set_cons_succ]
        refine take_at 20 (.pointer (some ⟨b, o + i * 5, none⟩)) rfl (by kernel_rfl) (by kernel_rfl) (by kernel_rfl) (fun _ _ _ h => h) (Or.inl ⟨by rfl, ?_⟩) (by assumption) ?_
        · intro V hSV; go_simp
        simp only [Act.put, List.setIfInBounds_toArray, List.set_cons_zero, List.set_cons_succ]
        refine take_at 21 (.pointer (some ⟨b, o + i * 5 + 1, none⟩)) rfl (by kernel_rfl) (by kernel_rfl) (by kernel_rfl) (fun _ _ _ h => h) (Or.inl ⟨by rfl, ?_⟩) (by assumption) ?_
        · intro V hSV; go_simp
        simp only [Act.put, List.setIfInBounds_toArray, List.set_cons_zero, List.set_cons_succ]
        refine take_at 22 (.int .i64 g) rfl (by kernel_rfl) (by kernel_rfl) (by kernel_rfl) (fun _ _ _ h => h) (Or.inl ⟨by rfl, ?_⟩) (by assumption) ?_
        · intro V hSV; have e0 := GA.out V hSV; go_simp
        simp only [Act.put, List.setIfInBounds_toArray, List.set_cons_zero, List.set_cons_succ]
        refine wpAnyH_ready (rs := [16]) (by kernel_rfl) (by simp) ?_
        refine AllReadyH.cons rfl (fun KK hK => ?_) AllReadyH.nil
        go_simp
        go_wp2_with (first | (go_at_call 13; refine (HPd.out _ hHeld4).mono ?_; rintro e U8 ⟨⟨a1, c1', rfl, hi1⟩, hb8⟩))
        refine hK.out _ _ ?_ (fun hHeld16 => ?_)
        · exact below_step hHeld4 hb8
        clear hK KK
        refine wpAnyH_ready (rs := [23]) (by kernel_rfl) (by simp) ?_
        refine AllReadyH.cons rfl (fun KK hK => ?_) AllReadyH.nil
        go_simp
        go_wp2_with (first | (go_at_call 14; refine (HPr.out _ hHeld16).mono ?_; rintro e U9 ⟨⟨a2, c2', rfl, hi2⟩, hb9⟩))
        refine hK.out _ _ ?_ (fun hHeld23 => ?_)
        · exact below_step hHeld16 hb9
        clear hK KK
        have HIn := Lib.hid (ints_ a1 a2 kn c1' c2' ks U9 HKN.out.symm (hi1.on hb9) hi2 hkl)
        refine wpAnyH_ready (rs := [24]) (by kernel_rfl) (by simp) ?_
        refine AllReadyH.cons rfl (fun KK hK => ?_) AllReadyH.nil
        go_simp
        go_wp2_with (first | (go_at_call 12; refine HIn.out.mono ?_; rintro e U10 ⟨rfl, hb10⟩))
        refine hK.out _ _ ?_ (fun hHeld24 => ?_)
        · exact below_step hHeld23 hb10
        clear hK KK
        refine take_at 25 (.bool false) rfl (by kernel_rfl) (by kernel_rfl) (by kernel_rfl) (fun _ _ _ h => h) (Or.inl ⟨by rfl, ?_⟩) (by assumption) ?_
        · intro V hSV; go_simp
        simp only [Act.put, List.setIfInBounds_toArray, List.set_cons_zero, List.set_cons_succ]
        refine take_at 26 (.bool false) rfl (by kernel_rfl) (by kernel_rfl) (by kernel_rfl) (fun _ _ _ h => h) (Or.inl ⟨by rfl, ?_⟩) (by assumption) ?_
        · intro V hSV; go_simp
        simp only [Act.put, List.setIfInBounds_toArray, List.set_cons_zero, List.set_cons_succ]
        refine wpAnyH_done (by kernel_rfl) ?_ _
        refine NoPanic.normal ?_
        have hBe : Below U6.heap.size U6 U10 := hHeld24
        have HR1 : Hid (Run1 w R S B7 p aa bb (i + 1) U10) := ⟨d', ⟨r', s', l', cr', ar', lf'⟩, a', c', HV6.out.1.1.on hBe, by
            unfold rdC
            dsimp only
            rw [HT2.out.2.2.2.2]
            exact (hBe.block _ (blk_lt HV6.out.1.2.2.2.1)).trans HV6.out.1.2.2.2.1, HV6.out.1.2.1.on hBe, HT2.out.1, by have := HT2.out.2.1; have := HX.out.2.1; have := HT2.out.2.2.2.2; have := HLl.out; show l'.length ≤ _; omega, ⟨HT2.out.2.2.1.trans HX.out.1.1, HT2.out.2.2.2.1.trans HX.out.1.2⟩, (hBe.block _ (blk_lt HV6.out.2)).trans HV6.out.2, below_step HV6.out.1.2.2.1 hBe⟩
        clear hHeld hHeld4 hHeld16 hHeld23 hHeld24 hBe HIn HCr HPd HPr G3 GL7 GA
        go_wp2_with fail
        go_roundw
        case rel => exact ⟨i + 1, by go_num, by omega, by omega, HR1⟩
        case measure => simp [intOf]; omega
      · go_simp
        have hBz : Below wr.heap.size wr (wr.alloc (.cells #[.int .i64 0, .int .i64 0, .slice none 0 0, .bool false, .bool false, .int .i64 0] 32)).drew := below_step (below_alloc _ _) (below_drew _)
        refine hK.out _ _ ?_ (fun hHeld10 => ?_)
        · exact below_fd hBz _ _ _
        clear hK KK
        have hz10 : ((wr.alloc (.cells #[.int .i64 0, .int .i64 0, .slice none 0 0, .bool false, .bool false, .int .i64 0] 32)).drew).heap[wr.heap.size]? = some (.cells #[.int .i64 0, .int .i64 0, .slice none 0 0, .bool false, .bool false, .int .i64 0] 32 (0, 0)) := by rw [drew_heap]; exact alloc_at wr _
        have HSz := Lib.hid (HSt.out _ hBz)
        have HBz := Lib.hid (And.intro hBz hz10)
        clear hBz hz10
        generalize (wr.alloc (.cells #[.int .i64 0, .int .i64 0, .slice none 0 0, .bool false, .bool false, .int .i64 0] 32)).drew = Uz at *
        refine wpAnyH_ready (rs := [6]) (by kernel_rfl) (by simp) ?_
        refine AllReadyH.cons rfl (fun KK hK => ?_) AllReadyH.nil
        go_simp
        go_wp2_with (first | (go_at_call 10; refine HSz.out.mono ?_; rintro e U2 ⟨d', x', a', c', rfl, hD2, hL2, hF2, hT2, hl2, hr2, hs2⟩))
        refine hK.out _ _ ?_ (fun hHeld6 => ?_)
        · exact Fd.trans (below_fd HBz.out.1 _ _ _) hF2
        clear hK KK
        obtain ⟨r', s', l', cr', ar', lf'⟩ := x'
        unfold rdV rdC
        dsimp only at hT2 hL2 hl2 ⊢
        generalize hL' : l'.length = L' at *
        have HT2 := Lib.hid (And.intro hT2 (And.intro hl2 (And.intro hr2 (And.intro hs2 hL'))))
        clear hT2 hl2 hr2 hs2 hL'
        have hzn : wr.heap.size ≠ p ∧ wr.heap.size ≠ aa ∧ wr.heap.size ≠ bb := HX2.out wr.heap.size (Nat.le_refl _)
        have hz2 := (hF2.block _ (blk_lt HBz.out.2) hzn.1 hzn.2.1 hzn.2.2).trans HBz.out.2
        have hfin := row_fin (cs := #[.int .i64 r', .int .i64 s', .slice a' L' c', .bool cr', .bool ar', .int .i64 lf']) hD2 hL2 hHeld6 (Nat.le_refl _) hz2
        have hst := store_rd (cs := #[.int .i64 r', .int .i64 s', .slice a' L' c', .bool cr', .bool ar', .int .i64 lf']) hz2 rfl rfl (six_one _ _ _ _ _ _ _ _)
        have hS11 := hfin.2.2.1
        have HU := Lib.hid (And.intro hfin HX.out.2.2.2.2.2.2)
        clear hfin hz2 hzn hD2 hL2 hF2 HBz HSz
        refine take_at 7 (.tuple #[.agg #[.int .i64 r', .int .i64 s', .slice a' L' c', .bool cr', .bool ar', .int .i64 lf'], .bool true]) rfl (by kernel_rfl) (by kernel_rfl) (by kernel_rfl) (fun _ _ _ h => h) (Or.inl ⟨by rfl, ?_⟩) (by assumption) ?_
        · intro V hSV; go_simp
        simp only [Act.put, List.setIfInBounds_toArray, List.set_cons_zero, List.set_cons_succ]
        refine take_at 8 (.agg #[.int .i64 r', .int .i64 s', .slice a' L' c', .bool cr', .bool ar', .int .i64 lf']) rfl (by kernel_rfl) (by kernel_rfl) (by kernel_rfl) (fun _ _ _ h => h) (Or.inl ⟨by rfl, ?_⟩) (by assumption) ?_
        · intro V hSV; go_simp
        simp only [Act.put, List.setIfInBounds_toArray, List.set_cons_zero, List.set_cons_succ]
        refine take_at 9 (.bool true) rfl (by kernel_rfl) (by kernel_rfl) (by kernel_rfl) (fun _ _ _ h => h) (Or.inl ⟨by rfl, ?_⟩) (by assumption) ?_
        · intro V hSV; go_simp
        simp only [Act.put, List.setIfInBounds_toArray, List.set_cons_zero, List.set_cons_succ]
        refine ready_store 11 rfl (by kernel_rfl) (by rfl) 32 _ _ (by rfl) _ _ (by rfl) (by rfl) hst hS11 ?_
        refine take_at 12 (.bool true) rfl (by kernel_rfl) (by kernel_rfl) (by kernel_rfl) (fun _ _ _ h => h) (Or.inl ⟨by rfl, ?_⟩) (by assumption) ?_
        · intro V hSV; go_simp
        simp only [Act.put, List.setIfInBounds_toArray, List.set_cons_zero, List.set_cons_succ]
        refine wpAnyH_done (by kernel_rfl) ?_ _
        refine NoPanic.normal ?_
        clear hst hS11 hHeld hHeld10 hHeld6 HSt GL
        generalize U2.setRow wr.heap.size #[.int .i64 r', .int .i64 s', .slice a' L' c', .bool cr', .bool ar', .int .i64 lf'] = U5 at *
        generalize hB10 : wr.heap.size = B10 at *
        clear hB10
        have hB5 : Below w.heap.size w U5 := HX.out.2.2.2.1.trans (HU.out.1.2.2.1.below (N := w.heap.size) HX.out.2.2.2.1.size hpw.1 hpw.2.1 hpw.2.2)
        have hg10 := HU.out.1.2.2.2
        have hg7 := (HU.out.1.2.2.1.block _ (blk_lt HG7.out) HX.out.2.2.2.2.1.1 HX.out.2.2.2.2.1.2.1 HX.out.2.2.2.2.1.2.2).trans HG7.out
        have hg2 := (HU.out.1.2.2.1.block _ (blk_lt HX.out.2.2.1) HX.out.2.2.2.2.2.1.1 HX.out.2.2.2.2.2.1.2.1 HX.out.2.2.2.2.2.1.2.2).trans HX.out.2.2.1
        obtain ⟨c0, c1, c2, c3, c4, c5⟩ := rd_cells hg10
        obtain ⟨d0, d1, d2, d3, d4, d5⟩ := rd_cells hg7
        have FZ := Lib.hid (fun o => frozen_of (o := o) hg7)
        have z0 := FZ.out 0
        have z1 := FZ.out 1
        have z2 := FZ.out 2
        have z3 := FZ.out 3
        have z4 := FZ.out 4
        have z5 := FZ.out 5
        have hfin := six_fin (w := w) HU.out.1.1 HU.out.1.2.1 hB5 (Nat.le_of_lt hwB) hg7 (.int .i64 r') (.int .i64 s') (.slice a' L' c') (.bool cr') (.bool ar') (.int .i64 lf')
        have hg26 := (hfin.2.2.2.2 _ (by omega)).trans hg2
        have HV6 := Lib.hid (And.intro hfin hg26)
        have hBB : B7 < B10 := HU.out.2
        clear hB5 hg10 hg7 hg2 FZ hfin hg26 HU
        go_wp2_with fail
        clear c0 c1 c2 c3 c4 c5 d0 d1 d2 d3 d4 d5 z0 z1 z2 z3 z4 z5
        generalize ((((((U5.setCell ⟨B7, 0, none⟩ (.int .i64 r')).setCell ⟨B7, 1, none⟩ (.int .i64 s')).setCell ⟨B7, 2, none⟩ (.slice a' L' c')).setCell ⟨B7, 3, none⟩ (.bool cr')).setCell ⟨B7, 4, none⟩ (.bool ar')).setCell ⟨B7, 5, none⟩ (.int .i64 lf')) = U6 at *
        have hcrT : cr' = d'.crashed := HT2.out.1.cr
        have hlen : l'.length ≤ 1000 := by have := HT2.out.2.1; have := HX.out.2.1; have := HT2.out.2.2.2.2; have := HLl.out; omega
        have HCr : Hid (∀ U, Below U6.heap.size U6 U → Calls Tryd.prog 11 #[.pointer (some ⟨p, 0, none⟩)] U fun e w' => e = .returned (.bool cr') ∧ Below U.heap.size U w') := fun U hU => (crashed_ (HV6.out.1.1.on hU)).mono fun e w' ⟨h1, h2⟩ => ⟨by rw [h1, hcrT], by rw [h2]; exact Below.refl _ _⟩
        have HPd : Hid (∀ U, Below U6.heap.size U6 U → Calls Tryd.prog 13 #[.pointer (some ⟨p, 0, none⟩), .int .i64 g] U fun e w' => (∃ a' c', e = .returned (.slice a' (pendD d' g).length c') ∧ IntsIn w' a' (pendD d' g)) ∧ Below U.heap.size U w') := fun U hU => dpend_ (HV6.out.1.1.on hU) g
        have HPr : Hid (∀ U, Below U6.heap.size U6 U → Calls Tryd.prog 14 #[.agg #[.int .i64 r', .int .i64 s', .slice a' L' c', .bool cr', .bool ar', .int .i64 lf'], .int .i64 g] U fun e w' => (∃ a' c', e = .returned (.slice a' (pendD d' g).length c') ∧ IntsIn w' a' (pendD d' g)) ∧ Below U.heap.size U w') := fun U hU => by
          have := rpendT ⟨r', s', l', cr', ar', lf'⟩ d' g (HV6.out.1.2.1.on hU) HT2.out.1 hlen
          unfold rdV rdC at this
          dsimp only at this
          rw [HT2.out.2.2.2.2] at this
          exact this
        have hkl : (pendD d' g).length ≤ 1000000 := by
          rw [tie_pend HT2.out.1]
          have := pendS8_len g l'
          unfold pendS8 at this
          show (List.map _ (List.filter _ l')).length ≤ _
          omega
        have G3 : Hid (∀ U, Below U6.heap.size U6 U → U.cell? ⟨B7, 3, none⟩ = some (.bool cr')) := fun U hU => cell_of ((hU.block _ (blk_lt HV6.out.1.2.2.2.1)).trans HV6.out.1.2.2.2.1) rfl
        have GL7 : Hid (∀ U, Below U6.heap.size U6 U → (Instr.loadAt 32 (.pointer (some ⟨B7, 0, none⟩))).run Tryd.prog U = .ok (.agg #[.int .i64 r', .int .i64 s', .slice a' L' c', .bool cr', .bool ar', .int .i64 lf']) U) := fun U hU => load_rd ((hU.block _ (blk_lt HV6.out.1.2.2.2.1)).trans HV6.out.1.2.2.2.1) rfl
        have GA : Hid (∀ U, Below U6.heap.size U6 U → U.cell? ⟨b, o + i * 5 + 1, none⟩ = some (.int .i64 g)) := fun U hU => F5.out U (below_step HV6.out.1.2.2.1 hU)
        clear hcrT
        generalize pendD d' g = ks at *
        generalize hkn : ks.length = kn at *
        have HKN := Lib.hid hkn
        clear hkn
        refine wp_region_noPanic ?_
        refine wp_region_held_drew (S := fun U => Below U6.heap.size U6 U) (by kernel_rfl) (below_drew _) (fun hHeld => ?_)
        refine take_at 0 (.bool true) rfl (by kernel_rfl) (by kernel_rfl) (by kernel_rfl) (fun _ _ _ h => h) (Or.inl ⟨by rfl, ?_⟩) (by assumption) ?_
        · intro V hSV; go_simp
        simp only [Act.put, List.setIfInBounds_toArray, List.set_cons_zero, List.set_cons_succ]
        refine take_at 1 (.bool false) rfl (by kernel_rfl) (by kernel_rfl) (by kernel_rfl) (fun _ _ _ h => h) (Or.inl ⟨by rfl, ?_⟩) (by assumption) ?_
        · intro V hSV; go_simp
        simp only [Act.put, List.setIfInBounds_toArray, List.set_cons_zero, List.set_cons_succ]
        refine take_at 2 (.bool false) rfl (by kernel_rfl) (by kernel_rfl) (by kernel_rfl) (fun _ _ _ h => h) (Or.inl ⟨by rfl, ?_⟩) (by assumption) ?_
        · intro V hSV; go_simp
        simp only [Act.put, List.setIfInBounds_toArray, List.set_cons_zero, List.set_cons_succ]
        refine take_at 3 (.pointer (some ⟨p, 0, none⟩)) rfl (by kernel_rfl) (by kernel_rfl) (by kernel_rfl) (fun _ _ _ h => h) (Or.inl ⟨by rfl, ?_⟩) (by assumption) ?_
        · intro V hSV; go_simp
        simp only [Act.put, List.setIfInBounds_toArray, List.set_cons_zero, List.set_cons_succ]
        refine take_at 5 (.pointer (some ⟨B7, 3, none⟩)) rfl (by kernel_rfl) (by kernel_rfl) (by kernel_rfl) (fun _ _ _ h => h) (Or.inl ⟨by rfl, ?_⟩) (by assumption) ?_
        · intro V hSV; go_simp
        simp only [Act.put, List.setIfInBounds_toArray, List.set_cons_zero, List.set_cons_succ]
        refine take_at 6 (.bool cr') rfl (by kernel_rfl) (by kernel_rfl) (by kernel_rfl) (fun _ _ _ h => h) (Or.inl ⟨by rfl, ?_⟩) (by assumption) ?_
        · intro V hSV; have e0 := G3.out V hSV; go_simp
        simp only [Act.put, List.setIfInBounds_toArray, List.set_cons_zero, List.set_cons_succ]
        refine wpAnyH_ready (rs := [4]) (by kernel_rfl) (by simp) ?_
        refine AllReadyH.cons rfl (fun KK hK => ?_) AllReadyH.nil
        go_simp
        go_wp2_with (first | (go_at_call 11; refine (HCr.out _ (below_drew _)).mono ?_; rintro e U7 ⟨rfl, hb7⟩))
        refine hK.out _ _ ?_ (fun hHeld4 => ?_)
        · exact below_step (by assumption) hb7
        clear hK KK
        refine take_at 7 (.bool false) rfl (by kernel_rfl) (by kernel_rfl) (by kernel_rfl) (fun _ _ _ h => h) (Or.inl ⟨by rfl, ?_⟩) (by assumption) ?_
        · intro V hSV; go_simp
        simp only [Act.put, List.setIfInBounds_toArray, List.set_cons_zero, List.set_cons_succ]
        refine take_at 8 (.bool false) rfl (by kernel_rfl) (by kernel_rfl) (by kernel_rfl) (fun _ _ _ h => h) (Or.inl ⟨by rfl, ?_⟩) (by assumption) ?_
        · intro V hSV; go_simp
        simp only [Act.put, List.setIfInBounds_toArray, List.set_cons_zero, List.set_cons_succ]
        refine take_at 9 (.bool false) rfl (by kernel_rfl) (by kernel_rfl) (by kernel_rfl) (fun _ _ _ h => h) (Or.inl ⟨by rfl, ?_⟩) (by assumption) ?_
        · intro V hSV; go_simp
        simp only [Act.put, List.setIfInBounds_toArray, List.set_cons_zero, List.set_cons_succ]
        refine take_at 10 (.pointer (some ⟨p, 0, none⟩)) rfl (by kernel_rfl) (by kernel_rfl) (by kernel_rfl) (fun _ _ _ h => h) (Or.inl ⟨by rfl, ?_⟩) (by assumption) ?_
        · intro V hSV; go_simp
        simp only [Act.put, List.setIfInBounds_toArray, List.set_cons_zero, List.set_cons_succ]
        refine take_at 11 (.slice (some ⟨b, o, none⟩) n c) rfl (by kernel_rfl) (by kernel_rfl) (by kernel_rfl) (fun _ _ _ h => h) (Or.inl ⟨by rfl, ?_⟩) (by assumption) ?_
        · intro V hSV; go_simp
        simp only [Act.put, List.setIfInBounds_toArray, List.set_cons_zero, List.set_cons_succ]
        refine take_at 12 (.int .i64 i) rfl (by kernel_rfl) (by kernel_rfl) (by kernel_rfl) (fun _ _ _ h => h) (Or.inl ⟨by rfl, ?_⟩) (by assumption) ?_
        · intro V hSV; go_simp
        simp only [Act.put, List.setIfInBounds_toArray, List.set_cons_zero, List.set_cons_succ]
        refine take_at 13 (.pointer (some ⟨b, o + i * 5, none⟩)) rfl (by kernel_rfl) (by kernel_rfl) (by kernel_rfl) (fun _ _ _ h => h) (Or.inl ⟨by rfl, ?_⟩) (by assumption) ?_
        · intro V hSV; go_simp
        simp only [Act.put, List.setIfInBounds_toArray, List.set_cons_zero, List.set_cons_succ]
        refine take_at 14 (.pointer (some ⟨b, o + i * 5 + 1, none⟩)) rfl (by kernel_rfl) (by kernel_rfl) (by kernel_rfl) (fun _ _ _ h => h) (Or.inl ⟨by rfl, ?_⟩) (by assumption) ?_
        · intro V hSV; go_simp
        simp only [Act.put, List.setIfInBounds_toArray, List.set_cons_zero, List.set_cons_succ]
        refine take_at 15 (.int .i64 g) rfl (by kernel_rfl) (by kernel_rfl) (by kernel_rfl) (fun _ _ _ h => h) (Or.inl ⟨by rfl, ?_⟩) (by assumption) ?_
        · intro V hSV; have e0 := GA.out V hSV; go_simp
        simp only [Act.put, List.setIfInBounds_toArray, List.set_cons_zero, List.set_cons_succ]
        refine take_at 17 (.agg #[.int .i64 r', .int .i64 s', .slice a' L' c', .bool cr', .bool ar', .int .i64 lf']) rfl (by kernel_rfl) (by kernel_rfl) (by kernel_rfl) (fun _ _ _ h => h) (yields_load (by rfl) 32 _ (by rfl) _ _ (by rfl) (GL7.out)) (by assumption) ?_
        simp only [Act.put, List.setIfInBounds_toArray, List.set_cons_zero, List.set_cons_succ]
        refine take_at 18 (.slice (some ⟨b, o, none⟩) n c) rfl (by kernel_rfl) (by kernel_rfl) (by kernel_rfl) (fun _ _ _ h => h) (Or.inl ⟨by rfl, ?_⟩) (by assumption) ?_
        · intro V hSV; go_simp
        simp only [Act.put, List.setIfInBounds_toArray, List.set_cons_zero, List.set_cons_succ]
        refine take_at 19 (.int .i64 i) rfl (by kernel_rfl) (by kernel_rfl) (by kernel_rfl) (fun _ _ _ h => h) (Or.inl ⟨by rfl, ?_⟩) (by assumption) ?_
        · intro V hSV; go_simp
        simp only [Act.put, List.setIfInBounds_toArray, List.set_cons_zero, List.set_cons_succ]
        refine take_at 20 (.pointer (some ⟨b, o + i * 5, none⟩)) rfl (by kernel_rfl) (by kernel_rfl) (by kernel_rfl) (fun _ _ _ h => h) (Or.inl ⟨by rfl, ?_⟩) (by assumption) ?_
        · intro V hSV; go_simp
        simp only [Act.put, List.setIfInBounds_toArray, List.set_cons_zero, List.set_cons_succ]
        refine take_at 21 (.pointer (some ⟨b, o + i * 5 + 1, none⟩)) rfl (by kernel_rfl) (by kernel_rfl) (by kernel_rfl) (fun _ _ _ h => h) (Or.inl ⟨by rfl, ?_⟩) (by assumption) ?_
        · intro V hSV; go_simp
        simp only [Act.put, List.setIfInBounds_toArray, List.set_cons_zero, List.set_cons_succ]
        refine take_at 22 (.int .i64 g) rfl (by kernel_rfl) (by kernel_rfl) (by kernel_rfl) (fun _ _ _ h => h) (Or.inl ⟨by rfl, ?_⟩) (by assumption) ?_
        · intro V hSV; have e0 := GA.out V hSV; go_simp
        simp only [Act.put, List.setIfInBounds_toArray, List.set_cons_zero, List.set_cons_succ]
        refine wpAnyH_ready (rs := [16]) (by kernel_rfl) (by simp) ?_
        refine AllReadyH.cons rfl (fun KK hK => ?_) AllReadyH.nil
        go_simp
        go_wp2_with (first | (go_at_call 13; refine (HPd.out _ hHeld4).mono ?_; rintro e U8 ⟨⟨a1, c1', rfl, hi1⟩, hb8⟩))
        refine hK.out _ _ ?_ (fun hHeld16 => ?_)
        · exact below_step hHeld4 hb8
        clear hK KK
        refine wpAnyH_ready (rs := [23]) (by kernel_rfl) (by simp) ?_
        refine AllReadyH.cons rfl (fun KK hK => ?_) AllReadyH.nil
        go_simp
        go_wp2_with (first | (go_at_call 14; refine (HPr.out _ hHeld16).mono ?_; rintro e U9 ⟨⟨a2, c2', rfl, hi2⟩, hb9⟩))
        refine hK.out _ _ ?_ (fun hHeld23 => ?_)
        · exact below_step hHeld16 hb9
        clear hK KK
        have HIn := Lib.hid (ints_ a1 a2 kn c1' c2' ks U9 HKN.out.symm (hi1.on hb9) hi2 hkl)
        refine wpAnyH_ready (rs := [24]) (by kernel_rfl) (by simp) ?_
        refine AllReadyH.cons rfl (fun KK hK => ?_) AllReadyH.nil
        go_simp
        go_wp2_with (first | (go_at_call 12; refine HIn.out.mono ?_; rintro e U10 ⟨rfl, hb10⟩))
        refine hK.out _ _ ?_ (fun hHeld24 => ?_)
        · exact below_step hHeld23 hb10
        clear hK KK
        refine take_at 25 (.bool false) rfl (by kernel_rfl) (by kernel_rfl) (by kernel_rfl) (fun _ _ _ h => h) (Or.inl ⟨by rfl, ?_⟩) (by assumption) ?_
        · intro V hSV; go_simp
        simp only [Act.put, List.setIfInBounds_toArray, List.set_cons_zero, List.set_cons_succ]
        refine take_at 26 (.bool false) rfl (by kernel_rfl) (by kernel_rfl) (by kernel_rfl) (fun _ _ _ h => h) (Or.inl ⟨by rfl, ?_⟩) (by assumption) ?_
        · intro V hSV; go_simp
        simp only [Act.put, List.setIfInBounds_toArray, List.set_cons_zero, List.set_cons_succ]
        refine wpAnyH_done (by kernel_rfl) ?_ _
        refine NoPanic.normal ?_
        have hBe : Below U6.heap.size U6 U10 := hHeld24
        have HR1 : Hid (Run1 w R S B7 p aa bb (i + 1) U10) := ⟨d', ⟨r', s', l', cr', ar', lf'⟩, a', c', HV6.out.1.1.on hBe, by
            unfold rdC
            dsimp only
            rw [HT2.out.2.2.2.2]
            exact (hBe.block _ (blk_lt HV6.out.1.2.2.2.1)).trans HV6.out.1.2.2.2.1, HV6.out.1.2.1.on hBe, HT2.out.1, by have := HT2.out.2.1; have := HX.out.2.1; have := HT2.out.2.2.2.2; have := HLl.out; show l'.length ≤ _; omega, ⟨HT2.out.2.2.1.trans HX.out.1.1, HT2.out.2.2.2.1.trans HX.out.1.2⟩, (hBe.block _ (blk_lt HV6.out.2)).trans HV6.out.2, below_step HV6.out.1.2.2.1 hBe⟩
        clear hHeld hHeld4 hHeld16 hHeld23 hHeld24 hBe HIn HCr HPd HPr G3 GL7 GA
        go_wp2_with fail
        go_roundw
        case rel => exact ⟨i + 1, by go_num, by omega, by omega, HR1⟩
        case measure => simp [intOf]; omega
    · by_cases hn1 : i < n
      · have q1 : decide ((i : Int) < (n : Int)) = true := decide_eq_true (by omega)
        have q2 : decide ((i : Int) < 150) = false := decide_eq_false (by omega)
        clear hgo
        obtain ⟨d, x, ra, rc, hd, hg7, hls, htie, hxl, hrs, hg2, hb⟩ := HS.out
        have HCl := Lib.hid (clone_ hd)
        have hlts := hd.lts
        have hne := dev_ne hd hg7 (by decide)
        have hne2 := dev_ne hd hg2 (by decide)
        have H0 := Lib.hid (And.intro hg7 (And.intro hls (And.intro hg2 hb)))
        have H00 := Lib.hid (And.intro hlts (And.intro hne hne2))
        have HTie := Lib.hid (And.intro htie (And.intro hxl hrs))
        clear hd hg7 hls htie hxl hrs hg2 hb HS hne hne2 hlts H1
        go_wp2_with fail
        refine HCl.out.mono ?_
        rintro e w3 ⟨cq, cx, cy, rfl, hDc, hDp, hlo3, hb3⟩
        have HA : Hid (Both w R S wr.heap.size B7 p aa bb cq cx cy d i d i x ra rc w3) := ⟨⟨H00.out.1.1, H00.out.1.2.1, H00.out.1.2.2, blk_lt H0.out.1, blk_lt H0.out.2.2.1⟩, hlo3, hpw, hwB, H00.out.2.1, H00.out.2.2, hDp, hDc, (hb3.block _ (blk_lt H0.out.1)).trans H0.out.1, (hb3.block _ (blk_lt H0.out.2.2.1)).trans H0.out.2.2.1, H0.out.2.1.on hb3, below_step H0.out.2.2.2 hb3⟩
        clear hDc hDp hlo3 hb3 HCl H0 H00
        generalize wr.heap.size = M at *
        have HRp : Hid (Calls Tryd.prog 16 #[.pointer (some ⟨p, 0, none⟩), .slice none 0 0] w3 fun e w' => e = .returned (.tuple #[]) ∧ DevIn w' p aa bb (restartD d []) i ∧ Fd p aa bb w3 w') := restart_ HA.out.dp none [] 0 0 rfl (intsIn_nil _ _) (fun _ _ e => by cases e) (by omega)
        go_wp2_with fail
        refine HRp.out.mono ?_
        rintro e w4 ⟨rfl, hD4, hf4⟩
        have kc := fun (w : World) (C : Array Value) (n c : Nat) => Lib.run_convert_bytes_const (P := Tryd.prog) w 39 5 C n c Tryd.underlying39 Tryd.underlying5
        have hA4 := (HA.out.fdp hf4 hD4).on (below_alloc w4 (.cells #[.int .u8 111, .int .u8 116, .int .u8 104, .int .u8 101, .int .u8 114] 5 (5, 6)))
        have HA4 := Lib.hid hA4
        have HWr : Hid (Calls Tryd.prog 17 #[.pointer (some ⟨p, 0, none⟩), .int .i64 0, .int .i64 0, .slice (some ⟨w4.heap.size, 0, none⟩) 5 5] (w4.alloc (.cells #[.int .u8 111, .int .u8 116, .int .u8 104, .int .u8 101, .int .u8 114] 5 (5, 6))) fun e w' => (∃ v, e = .returned v) ∧ DevIn w' p aa bb (writeD (restartD d []) (0, 0) [111, 116, 104, 101, 114]) (i + 1) ∧ Fd p aa bb (w4.alloc (.cells #[.int .u8 111, .int .u8 116, .int .u8 104, .int .u8 101, .int .u8 114] 5 (5, 6))) w') :=
          (write_ hA4.dp (0, 0) (some ⟨w4.heap.size, 0, none⟩) [111, 116, 104, 101, 114] 5 5 (bytes_new w4 [111, 116, 104, 101, 114] (5, 6)) rfl (by decide) (by omega)).mono fun _ _ ⟨h1, h2⟩ => ⟨⟨_, h1⟩, h2⟩
        clear hA4 hD4 hf4 HRp HA
        go_wp2_with fail
        clear kc
        refine HWr.out.mono ?_
        rintro e w5 ⟨⟨v5, rfl⟩, hD5, hf5⟩
        have hA5 := (HA4.out.fdp hf5 hD5).on (below_alloc w5 (.cells #[.int .i64 1, .int .i64 2, .int .i64 1, .int .i64 2] 3))
        have HA5 := Lib.hid hA5
        have HRc : Hid (Calls Tryd.prog 16 #[.pointer (some ⟨cq, 0, none⟩), .slice (some ⟨w5.heap.size, 0, none⟩) 4 4] (w5.alloc (.cells #[.int .i64 1, .int .i64 2, .int .i64 1, .int .i64 2] 3)) fun e w' => e = .returned (.tuple #[]) ∧ DevIn w' cq cx cy (restartD d [1, 2, 1, 2]) i ∧ Fd cq cx cy (w5.alloc (.cells #[.int .i64 1, .int .i64 2, .int .i64 1, .int .i64 2] 3)) w') :=
          restart_ hA5.dc _ [1, 2, 1, 2] 4 4 rfl (ints_new w5 [1, 2, 1, 2] (0, 0)) (fun b o e => by
            simp only [Option.some.injEq, Addr.mk.injEq] at e
            have := ((HA4.out.fdp hf5 hD5).dc).lts.1
            omega) (by omega)
        clear hA5 hD5 hf5 HWr HA4
        go_wp2_with fail
        refine HRc.out.mono ?_
        rintro e w6 ⟨rfl, hD6, hf6⟩
        have hA6 := HA5.out.fdc hf6 hD6
        have HA6 := Lib.hid hA6
        have hA6' := hA6.on (below_alloc w6 (.cells #[.int .i64 1, .int .i64 2, .int .i64 1, .int .i64 2] 3))
        have hI6 := ints_new w6 [1, 2, 1, 2] (0, 0)
        have HRr : Hid (Calls Tryd.prog 18 #[rdV x ra rc, .slice (some ⟨w6.heap.size, 0, none⟩) 4 4] (w6.alloc (.cells #[.int .i64 1, .int .i64 2, .int .i64 1, .int .i64 2] 3)) fun e w' => (∃ a' c', e = .returned (rdV (restRD x [1, 2, 1, 2]) a' c') ∧ LstS w' a' c' (restRD x [1, 2, 1, 2]).l) ∧ Below (w6.alloc (.cells #[.int .i64 1, .int .i64 2, .int .i64 1, .int .i64 2] 3)).heap.size (w6.alloc (.cells #[.int .i64 1, .int .i64 2, .int .i64 1, .int .i64 2] 3)) w') :=
          rrestT x d _ [1, 2, 1, 2] 4 4 hA6'.ls HTie.out.1 (by have := HTie.out.2.1; omega) hI6 rfl
        have HA6' := Lib.hid hA6'
        have hg76 := hA6.g7
        clear hA6 hD6 hf6 HRc HA5 hI6 hA6'
        obtain ⟨r, s, l, cr, ar, lf⟩ := x
        unfold rdC at hg76
        unfold rdV rdC at HRr
        dsimp only at hg76 HRr
        generalize hLn : l.length = L at *
        obtain ⟨c0, c1, c2, c3, c4, c5⟩ := rd_cells hg76
        clear hg76
        go_wp2_with fail
        refine HRr.out.mono ?_
        rintro e w7 ⟨⟨a7, c7, rfl, hl7⟩, hb7⟩
        have hA7 := HA6'.out.on hb7
        have hT7 := tie_rest HTie.out.1 [1, 2, 1, 2]
        have hll : (restRD ⟨r, s, l, cr, ar, lf⟩ [1, 2, 1, 2]).l.length ≤ 150 := by show (restR l _).length ≤ 150; rw [length_restR]; have := HTie.out.2.1; omega
        have hsz := keeps_size d (0, 0) [111, 116, 104, 101, 114]
        rw [HTie.out.2.2.1, HTie.out.2.2.2] at hsz
        have HSZ := Lib.hid hsz
        generalize restRD ⟨r, s, l, cr, ar, lf⟩ [1, 2, 1, 2] = X7 at *
        have hA8 := hA7.six X7 a7 c7 hl7
        have hg77 := hA7.g7
        obtain ⟨r7, s7, l7, cr7, ar7, lf7⟩ := X7
        unfold rdC at hg77
        dsimp only at hl7 hll hA8 hg77 ⊢
        rw [hLn] at hg77
        obtain ⟨d0, d1, d2, d3, d4, d5⟩ := rd_cells hg77
        have FZ := Lib.hid (fun o => frozen_of (o := o) hg77)
        have z0 := FZ.out 0
        have z1 := FZ.out 1
        have z2 := FZ.out 2
        have z3 := FZ.out 3
        have z4 := FZ.out 4
        have z5 := FZ.out 5
        have HA8 := Lib.hid hA8
        have HT7 := Lib.hid hT7
        generalize hL7 : l7.length = L7 at *
        have HL7 := Lib.hid hL7
        clear hA7 hT7 hl7 hb7 HRr HA6 HA6' hA8 hg77 FZ hsz HTie hL7 hLn c0 c1 c2 c3 c4 c5
        go_wp2_with fail
        clear d0 d1 d2 d3 d4 d5 z0 z1 z2 z3 z4 z5
        generalize ((((((w7.setCell ⟨B7, 0, none⟩ (.int .i64 r7)).setCell ⟨B7, 1, none⟩ (.int .i64 s7)).setCell ⟨B7, 2, none⟩ (.slice a7 L7 c7)).setCell ⟨B7, 3, none⟩ (.bool cr7)).setCell ⟨B7, 4, none⟩ (.bool ar7)).setCell ⟨B7, 5, none⟩ (.int .i64 lf7)) = w8 at *
        generalize writeD (restartD d []) (0, 0) [111, 116, 104, 101, 114] = dP at *
        go_loopw [13, 14, 15] (fun iv _ _ wr2 => ∃ i2 : Nat, iv = .int .i64 i2 ∧ i2 ≤ L7 ∧ Hid (Below w8.heap.size w8 wr2)) (fun iv _ _ _ => L7 - (intOf iv).toNat)
        case atStart => exact ⟨0, rfl, Nat.zero_le _, Below.refl _ _⟩
        case round =>
          obtain ⟨i2, rfl, hi2, HB2⟩ := hrel
          have HAr := Lib.hid (HA8.out.on HB2.out)
          have hgr := HAr.out.g7
          unfold rdC at hgr
          dsimp only at hgr
          rw [HL7.out] at hgr
          by_cases hlt : i2 < L7
          · have r1 : decide ((i2 : Int) < (L7 : Int)) = true := decide_eq_true (by omega)
            have r2 : decide ((i2 : Int) < 300) = true := decide_eq_true (by omega)
            have r3 : (0 : Int) ≤ (i2 : Int) := by omega
            have r4 : (i2 : Int) < (L7 : Int) := by omega
            have hil : i2 < l7.length := by rw [HL7.out]; exact hlt
            obtain ⟨b, o, rfl, hsec⟩ := HAr.out.ls.1 i2 hil
            obtain ⟨u0, u1, u2, _, _⟩ := hsec.cells
            have hrd := clone_reads HT7.out (List.getElem_mem hil)
            obtain ⟨_, _, m2, _, _, _⟩ := rd_cells hgr
            have hlen64 : (l7[i2]).safe.length = 64 := (HT7.out.ok _ (List.getElem_mem hil)).1.1
            generalize l7[i2] = y at *
            obtain ⟨⟨x1, x2⟩, sa, no, pe⟩ := y
            dsimp only at u0 u1 u2 hrd hlen64
            have GS : Hid (∀ U, Below wr.heap.size wr U → U.cell? ⟨B7, 2, none⟩ = some (.slice (some ⟨b, o, none⟩) L7 c7)) := fun U hU => (hU.cell (block_lt_of_cell m2)).trans m2
            have Q0 : Hid (∀ U, Below wr.heap.size wr U → U.cell? ⟨b, o + i2 * 5, none⟩ = some (.int .i64 x1)) := fun U hU => (hU.cell (block_lt_of_cell u0)).trans u0
            have Q1 : Hid (∀ U, Below wr.heap.size wr U → U.cell? ⟨b, o + i2 * 5 + 1, none⟩ = some (.int .i64 x2)) := fun U hU => (hU.cell (block_lt_of_cell u1)).trans u1
            have Q2 : Hid (∀ U, Below wr.heap.size wr U → U.cell? ⟨b, o + i2 * 5 + 2, none⟩ = some (.string (bs sa))) := fun U hU => (hU.cell (block_lt_of_cell u2)).trans u2
            have HRd : Hid (∀ U, Below wr.heap.size wr U → Calls Tryd.prog 19 #[.pointer (some ⟨cq, 0, none⟩), .int .i64 x1, .int .i64 x2] U (GotC U sa)) := fun U hU => (read_ (HAr.out.dc.on hU) (x1, x2)).mono fun e w' h => got_of8 h hrd
            have H64 := Lib.hid hlen64
            clear u0 u1 u2 hrd hlen64 hsec hgr
            go_wp2_with fail
            clear m2
            refine wp_region_noPanic ?_
            refine wp_region_held_drew (S := fun U => Below wr.heap.size wr U) (by kernel_rfl) (below_drew _) (fun hHeld => ?_)
            refine take_at 0 (.pointer (some ⟨cq, 0, none⟩)) rfl (by kernel_rfl) (by kernel_rfl) (by kernel_rfl) (fun _ _ _ h => h) (Or.inl ⟨by rfl, ?_⟩) (by assumption) ?_
            · intro V hSV; go_simp
            simp only [Act.put, List.setIfInBounds_toArray, List.set_cons_zero, List.set_cons_succ]
            refine take_at 1 (.pointer (some ⟨B7, 2, none⟩)) rfl (by kernel_rfl) (by kernel_rfl) (by kernel_rfl) (fun _ _ _ h => h) (Or.inl ⟨by rfl, ?_⟩) (by assumption) ?_
            · intro V hSV; go_simp
            simp only [Act.put, List.setIfInBounds_toArray, List.set_cons_zero, List.set_cons_succ]
            refine take_at 2 (.slice (some ⟨b, o, none⟩) L7 c7) rfl (by kernel_rfl) (by kernel_rfl) (by kernel_rfl) (fun _ _ _ h => h) (Or.inl ⟨by rfl, ?_⟩) (by assumption) ?_
            · intro V hSV; have e0 := GS.out V hSV; go_simp
            simp only [Act.put, List.setIfInBounds_toArray, List.set_cons_zero, List.set_cons_succ]
            refine take_at 3 (.int .i64 i2) rfl (by kernel_rfl) (by kernel_rfl) (by kernel_rfl) (fun _ _ _ h => h) (Or.inl ⟨by rfl, ?_⟩) (by assumption) ?_
            · intro V hSV; go_simp
            simp only [Act.put, List.setIfInBounds_toArray, List.set_cons_zero, List.set_cons_succ]
            refine take_at 4 (.pointer (some ⟨b, o + i2 * 5, none⟩)) rfl (by kernel_rfl) (by kernel_rfl) (by kernel_rfl) (fun _ _ _ h => h) (Or.inl ⟨by rfl, ?_⟩) (by assumption) ?_
            · intro V hSV; go_simp
            simp only [Act.put, List.setIfInBounds_toArray, List.set_cons_zero, List.set_cons_succ]
            refine take_at 5 (.pointer (some ⟨b, o + i2 * 5, none⟩)) rfl (by kernel_rfl) (by kernel_rfl) (by kernel_rfl) (fun _ _ _ h => h) (Or.inl ⟨by rfl, ?_⟩) (by assumption) ?_
            · intro V hSV; go_simp
            simp only [Act.put, List.setIfInBounds_toArray, List.set_cons_zero, List.set_cons_succ]
            refine take_at 6 (.int .i64 x1) rfl (by kernel_rfl) (by kernel_rfl) (by kernel_rfl) (fun _ _ _ h => h) (Or.inl ⟨by rfl, ?_⟩) (by assumption) ?_
            · intro V hSV; have e0 := Q0.out V hSV; go_simp
            simp only [Act.put, List.setIfInBounds_toArray, List.set_cons_zero, List.set_cons_succ]
            refine take_at 7 (.pointer (some ⟨B7, 2, none⟩)) rfl (by kernel_rfl) (by kernel_rfl) (by kernel_rfl) (fun _ _ _ h => h) (Or.inl ⟨by rfl, ?_⟩) (by assumption) ?_
            · intro V hSV; go_simp
            simp only [Act.put, List.setIfInBounds_toArray, List.set_cons_zero, List.set_cons_succ]
            refine take_at 8 (.slice (some ⟨b, o, none⟩) L7 c7) rfl (by kernel_rfl) (by kernel_rfl) (by kernel_rfl) (fun _ _ _ h => h) (Or.inl ⟨by rfl, ?_⟩) (by assumption) ?_
            · intro V hSV; have e0 := GS.out V hSV; go_simp
            simp only [Act.put, List.setIfInBounds_toArray, List.set_cons_zero, List.set_cons_succ]
            refine take_at 9 (.int .i64 i2) rfl (by kernel_rfl) (by kernel_rfl) (by kernel_rfl) (fun _ _ _ h => h) (Or.inl ⟨by rfl, ?_⟩) (by assumption) ?_
            · intro V hSV; go_simp
            simp only [Act.put, List.setIfInBounds_toArray, List.set_cons_zero, List.set_cons_succ]
            refine take_at 10 (.pointer (some ⟨b, o + i2 * 5, none⟩)) rfl (by kernel_rfl) (by kernel_rfl) (by kernel_rfl) (fun _ _ _ h => h) (Or.inl ⟨by rfl, ?_⟩) (by assumption) ?_
            · intro V hSV; go_simp
            simp only [Act.put, List.setIfInBounds_toArray, List.set_cons_zero, List.set_cons_succ]
            refine take_at 11 (.pointer (some ⟨b, o + i2 * 5 + 1, none⟩)) rfl (by kernel_rfl) (by kernel_rfl) (by kernel_rfl) (fun _ _ _ h => h) (Or.inl ⟨by rfl, ?_⟩) (by assumption) ?_
            · intro V hSV; go_simp
            simp only [Act.put, List.setIfInBounds_toArray, List.set_cons_zero, List.set_cons_succ]
            refine take_at 12 (.int .i64 x2) rfl (by kernel_rfl) (by kernel_rfl) (by kernel_rfl) (fun _ _ _ h => h) (Or.inl ⟨by rfl, ?_⟩) (by assumption) ?_
            · intro V hSV; have e0 := Q1.out V hSV; go_simp
            simp only [Act.put, List.setIfInBounds_toArray, List.set_cons_zero, List.set_cons_succ]
            refine wpAnyH_ready (rs := [13]) (by kernel_rfl) (by simp) ?_
            refine AllReadyH.cons rfl (fun KK hK => ?_) AllReadyH.nil
            go_simp
            go_wp2_with (first | (go_at_call 19; refine (HRd.out _ (below_drew _)).mono ?_; rintro e U ⟨gq, rfl, hgq, hhq, hbq⟩))
            refine hK.out _ _ ?_ (fun hHeld13 => ?_)
            · exact below_step (by assumption) hbq
            clear hK KK
            refine take_at 14 (.tuple #[.slice (some ⟨gq, 0, none⟩) 64 64, .nilIface]) rfl (by kernel_rfl) (by kernel_rfl) (by kernel_rfl) (fun _ _ _ h => h) (Or.inl ⟨by rfl, ?_⟩) (by assumption) ?_
            · intro V hSV; go_simp
            simp only [Act.put, List.setIfInBounds_toArray, List.set_cons_zero, List.set_cons_succ]
            refine take_at 15 (.slice (some ⟨gq, 0, none⟩) 64 64) rfl (by kernel_rfl) (by kernel_rfl) (by kernel_rfl) (fun _ _ _ h => h) (Or.inl ⟨by rfl, ?_⟩) (by assumption) ?_
            · intro V hSV; go_simp
            simp only [Act.put, List.setIfInBounds_toArray, List.set_cons_zero, List.set_cons_succ]
            refine take_at 16 (.nilIface) rfl (by kernel_rfl) (by kernel_rfl) (by kernel_rfl) (fun _ _ _ h => h) (Or.inl ⟨by rfl, ?_⟩) (by assumption) ?_
            · intro V hSV; go_simp
            simp only [Act.put, List.setIfInBounds_toArray, List.set_cons_zero, List.set_cons_succ]
            refine take_at 17 (.slice (some ⟨gq, 0, none⟩) 64 64) rfl (by kernel_rfl) (by kernel_rfl) (by kernel_rfl) (fun _ _ _ h => h) (Or.inl ⟨by rfl, ?_⟩) (by assumption) ?_
            · intro V hSV; go_simp
            simp only [Act.put, List.setIfInBounds_toArray, List.set_cons_zero, List.set_cons_succ]
            refine take_at 18 (.nilIface) rfl (by kernel_rfl) (by kernel_rfl) (by kernel_rfl) (fun _ _ _ h => h) (Or.inl ⟨by rfl, ?_⟩) (by assumption) ?_
            · intro V hSV; go_simp
            simp only [Act.put, List.setIfInBounds_toArray, List.set_cons_zero, List.set_cons_succ]
            refine wpAnyH_done (by kernel_rfl) ?_ _
            refine NoPanic.normal ?_
            have HBU := Lib.hid hHeld13
            have HCV : Hid (∀ U', Below U.heap.size U U' → (convert 39 9 (.slice (some ⟨gq, 0, none⟩) 64 64)).run Tryd.prog U' = .ok (.string (bs sa)) U') := fun U' hU' => conv_ U' _ 64 64 sa H64.out.symm ((ct_bytes 5 hhq).on hU')
            have GS2 : Hid (∀ U', Below U.heap.size U U' → U'.cell? ⟨B7, 2, none⟩ = some (.slice (some ⟨b, o, none⟩) L7 c7)) := fun U' hU' => GS.out U' (below_step HBU.out hU')
            have Q22 : Hid (∀ U', Below U.heap.size U U' → U'.cell? ⟨b, o + i2 * 5 + 2, none⟩ = some (.string (bs sa))) := fun U' hU' => Q2.out U' (below_step HBU.out hU')
            clear hHeld hHeld13 hgq hhq hbq HRd GS Q0 Q1 Q2 H64
            generalize bs sa = sS at *
            go_wp2_with fail
            refine wp_region_noPanic ?_
            refine wp_region_held_drew (S := fun U' => Below U.heap.size U U') (by kernel_rfl) (below_drew _) (fun hHeld => ?_)
            refine take_at 0 (.nilIface) rfl (by kernel_rfl) (by kernel_rfl) (by kernel_rfl) (fun _ _ _ h => h) (Or.inl ⟨by rfl, ?_⟩) (by assumption) ?_
            · intro V hSV; go_simp
            simp only [Act.put, List.setIfInBounds_toArray, List.set_cons_zero, List.set_cons_succ]
            refine take_at 1 (.bool false) rfl (by kernel_rfl) (by kernel_rfl) (by kernel_rfl) (fun _ _ _ h => h) (Or.inl ⟨by rfl, ?_⟩) (by assumption) ?_
            · intro V hSV; go_simp
            simp only [Act.put, List.setIfInBounds_toArray, List.set_cons_zero, List.set_cons_succ]
            refine take_at 2 (.bool false) rfl (by kernel_rfl) (by kernel_rfl) (by kernel_rfl) (fun _ _ _ h => h) (Or.inl ⟨by rfl, ?_⟩) (by assumption) ?_
            · intro V hSV; go_simp
            simp only [Act.put, List.setIfInBounds_toArray, List.set_cons_zero, List.set_cons_succ]
            refine take_at 3 (.slice (some ⟨gq, 0, none⟩) 64 64) rfl (by kernel_rfl) (by kernel_rfl) (by kernel_rfl) (fun _ _ _ h => h) (Or.inl ⟨by rfl, ?_⟩) (by assumption) ?_
            · intro V hSV; go_simp
            simp only [Act.put, List.setIfInBounds_toArray, List.set_cons_zero, List.set_cons_succ]
            refine take_at 4 (.string sS) rfl (by kernel_rfl) (by kernel_rfl) (by kernel_rfl) (fun _ _ _ h => h) (Or.inl ⟨by rfl, ?_⟩) (by assumption) ?_
            · intro V hSV; have e0 := HCV.out V hSV; go_simp
            simp only [Act.put, List.setIfInBounds_toArray, List.set_cons_zero, List.set_cons_succ]
            refine take_at 5 (.pointer (some ⟨B7, 2, none⟩)) rfl (by kernel_rfl) (by kernel_rfl) (by kernel_rfl) (fun _ _ _ h => h) (Or.inl ⟨by rfl, ?_⟩) (by assumption) ?_
            · intro V hSV; go_simp
            simp only [Act.put, List.setIfInBounds_toArray, List.set_cons_zero, List.set_cons_succ]
            refine take_at 6 (.slice (some ⟨b, o, none⟩) L7 c7) rfl (by kernel_rfl) (by kernel_rfl) (by kernel_rfl) (fun _ _ _ h => h) (Or.inl ⟨by rfl, ?_⟩) (by assumption) ?_
            · intro V hSV; have e0 := GS2.out V hSV; go_simp
            simp only [Act.put, List.setIfInBounds_toArray, List.set_cons_zero, List.set_cons_succ]
            refine take_at 7 (.int .i64 i2) rfl (by kernel_rfl) (by kernel_rfl) (by kernel_rfl) (fun _ _ _ h => h) (Or.inl ⟨by rfl, ?_⟩) (by assumption) ?_
            · intro V hSV; go_simp
            simp only [Act.put, List.setIfInBounds_toArray, List.set_cons_zero, List.set_cons_succ]
            refine take_at 8 (.pointer (some ⟨b, o + i2 * 5, none⟩)) rfl (by kernel_rfl) (by kernel_rfl) (by kernel_rfl) (fun _ _ _ h => h) (Or.inl ⟨by rfl, ?_⟩) (by assumption) ?_
            · intro V hSV; go_simp
            simp only [Act.put, List.setIfInBounds_toArray, List.set_cons_zero, List.set_cons_succ]
            refine take_at 9 (.pointer (some ⟨b, o + i2 * 5 + 2, none⟩)) rfl (by kernel_rfl) (by kernel_rfl) (by kernel_rfl) (fun _ _ _ h => h) (Or.inl ⟨by rfl, ?_⟩) (by assumption) ?_
            · intro V hSV; go_simp
            simp only [Act.put, List.setIfInBounds_toArray, List.set_cons_zero, List.set_cons_succ]
            refine take_at 10 (.string sS) rfl (by kernel_rfl) (by kernel_rfl) (by kernel_rfl) (fun _ _ _ h => h) (Or.inl ⟨by rfl, ?_⟩) (by assumption) ?_
            · intro V hSV; have e0 := Q22.out V hSV; go_simp
            simp only [Act.put, List.setIfInBounds_toArray, List.set_cons_zero, List.set_cons_succ]
            refine take_at 11 (.bool false) rfl (by kernel_rfl) (by kernel_rfl) (by kernel_rfl) (fun _ _ _ h => h) (Or.inl ⟨by rfl, ?_⟩) (by assumption) ?_
            · intro V hSV; go_simp
            simp only [Act.put, List.setIfInBounds_toArray, List.set_cons_zero, List.set_cons_succ]
            refine take_at 12 (.bool false) rfl (by kernel_rfl) (by kernel_rfl) (by kernel_rfl) (fun _ _ _ h => h) (Or.inl ⟨by rfl, ?_⟩) (by assumption) ?_
            · intro V hSV; go_simp
            simp only [Act.put, List.setIfInBounds_toArray, List.set_cons_zero, List.set_cons_succ]
            refine wpAnyH_done (by kernel_rfl) ?_ _
            refine NoPanic.normal ?_
            have HB3 := Lib.hid (below_step (below_step HB2.out HBU.out) (below_drew U))
            clear hHeld HCV GS2 Q22 HBU
            go_wp2_with fail
            go_roundw
            case rel => exact ⟨i2 + 1, by go_num, by omega, HB3⟩
            case measure => simp [intOf]; omega
          · have r1 : decide ((i2 : Int) < (L7 : Int)) = false := decide_eq_false (by omega)
            obtain ⟨_, _, m2, _, _, _⟩ := rd_cells hgr
            have HSi : Hid (Calls Tryd.prog 20 #[.pointer (some ⟨p, 0, none⟩)] wr fun e w' => e = .returned (.tuple #[.int .i64 R, .int .i64 S]) ∧ Below wr.heap.size wr w') := (dsize_ HAr.out.dp).mono fun e w' ⟨h1, h2⟩ => ⟨h1.trans (by rw [HSZ.out.1, HSZ.out.2]), h2⟩
            clear hgr
            go_wp2_with fail
            refine HSi.out.mono ?_
            rintro e w9 ⟨rfl, hb9⟩
            have hg9 := (hb9.block _ (blk_lt HAr.out.g2)).trans HAr.out.g2
            have c0 : w9.cell? ⟨w.heap.size, 0, none⟩ = some (.int .i64 R) := cell_of hg9 rfl
            have c1 : w9.cell? ⟨w.heap.size, 1, none⟩ = some (.int .i64 S) := cell_of hg9 rfl
            have HB9 := Lib.hid (below_step HAr.out.bw hb9)
            clear hg9 hb9 m2 HSi
            go_wp2_with fail
            refine (sure_ _).mono ?_
            rintro e w10 ⟨rfl, hb10⟩
            have HB10 := Lib.hid (below_step HB9.out hb10)
            clear hb10
            go_wp2_with fail
            go_ret
            exact ⟨rfl, HB10.out⟩
      · have q1 : decide ((i : Int) < (n : Int)) = false := decide_eq_false (by omega)
        clear hgo
        obtain ⟨d, x, ra, rc, hd, hg7, hls, htie, hxl, hrs, hg2, hb⟩ := HS.out
        have HCl := Lib.hid (clone_ hd)
        have hlts := hd.lts
        have hne := dev_ne hd hg7 (by decide)
        have hne2 := dev_ne hd hg2 (by decide)
        have H0 := Lib.hid (And.intro hg7 (And.intro hls (And.intro hg2 hb)))
        have H00 := Lib.hid (And.intro hlts (And.intro hne hne2))
        have HTie := Lib.hid (And.intro htie (And.intro hxl hrs))
        clear hd hg7 hls htie hxl hrs hg2 hb HS hne hne2 hlts H1
        go_wp2_with fail
        refine HCl.out.mono ?_
        rintro e w3 ⟨cq, cx, cy, rfl, hDc, hDp, hlo3, hb3⟩
        have HA : Hid (Both w R S wr.heap.size B7 p aa bb cq cx cy d i d i x ra rc w3) := ⟨⟨H00.out.1.1, H00.out.1.2.1, H00.out.1.2.2, blk_lt H0.out.1, blk_lt H0.out.2.2.1⟩, hlo3, hpw, hwB, H00.out.2.1, H00.out.2.2, hDp, hDc, (hb3.block _ (blk_lt H0.out.1)).trans H0.out.1, (hb3.block _ (blk_lt H0.out.2.2.1)).trans H0.out.2.2.1, H0.out.2.1.on hb3, below_step H0.out.2.2.2 hb3⟩
        clear hDc hDp hlo3 hb3 HCl H0 H00
        generalize wr.heap.size = M at *
        have HRp : Hid (Calls Tryd.prog 16 #[.pointer (some ⟨p, 0, none⟩), .slice none 0 0] w3 fun e w' => e = .returned (.tuple #[]) ∧ DevIn w' p aa bb (restartD d []) i ∧ Fd p aa bb w3 w') := restart_ HA.out.dp none [] 0 0 rfl (intsIn_nil _ _) (fun _ _ e => by cases e) (by omega)
        go_wp2_with fail
        refine HRp.out.mono ?_
        rintro e w4 ⟨rfl, hD4, hf4⟩
        have kc := fun (w : World) (C : Array Value) (n c : Nat) => Lib.run_convert_bytes_const (P := Tryd.prog) w 39 5 C n c Tryd.underlying39 Tryd.underlying5
        have hA4 := (HA.out.fdp hf4 hD4).on (below_alloc w4 (.cells #[.int .u8 111, .int .u8 116, .int .u8 104, .int .u8 101, .int .u8 114] 5 (5, 6)))
        have HA4 := Lib.hid hA4
        have HWr : Hid (Calls Tryd.prog 17 #[.pointer (some ⟨p, 0, none⟩), .int .i64 0, .int .i64 0, .slice (some ⟨w4.heap.size, 0, none⟩) 5 5] (w4.alloc (.cells #[.int .u8 111, .int .u8 116, .int .u8 104, .int .u8 101, .int .u8 114] 5 (5, 6))) fun e w' => (∃ v, e = .returned v) ∧ DevIn w' p aa bb (writeD (restartD d []) (0, 0) [111, 116, 104, 101, 114]) (i + 1) ∧ Fd p aa bb (w4.alloc (.cells #[.int .u8 111, .int .u8 116, .int .u8 104, .int .u8 101, .int .u8 114] 5 (5, 6))) w') :=
          (write_ hA4.dp (0, 0) (some ⟨w4.heap.size, 0, none⟩) [111, 116, 104, 101, 114] 5 5 (bytes_new w4 [111, 116, 104, 101, 114] (5, 6)) rfl (by decide) (by omega)).mono fun _ _ ⟨h1, h2⟩ => ⟨⟨_, h1⟩, h2⟩
        clear hA4 hD4 hf4 HRp HA
        go_wp2_with fail
        clear kc
        refine HWr.out.mono ?_
        rintro e w5 ⟨⟨v5, rfl⟩, hD5, hf5⟩
        have hA5 := (HA4.out.fdp hf5 hD5).on (below_alloc w5 (.cells #[.int .i64 1, .int .i64 2, .int .i64 1, .int .i64 2] 3))
        have HA5 := Lib.hid hA5
        have HRc : Hid (Calls Tryd.prog 16 #[.pointer (some ⟨cq, 0, none⟩), .slice (some ⟨w5.heap.size, 0, none⟩) 4 4] (w5.alloc (.cells #[.int .i64 1, .int .i64 2, .int .i64 1, .int .i64 2] 3)) fun e w' => e = .returned (.tuple #[]) ∧ DevIn w' cq cx cy (restartD d [1, 2, 1, 2]) i ∧ Fd cq cx cy (w5.alloc (.cells #[.int .i64 1, .int .i64 2, .int .i64 1, .int .i64 2] 3)) w') :=
          restart_ hA5.dc _ [1, 2, 1, 2] 4 4 rfl (ints_new w5 [1, 2, 1, 2] (0, 0)) (fun b o e => by
            simp only [Option.some.injEq, Addr.mk.injEq] at e
            have := ((HA4.out.fdp hf5 hD5).dc).lts.1
            omega) (by omega)
        clear hA5 hD5 hf5 HWr HA4
        go_wp2_with fail
        refine HRc.out.mono ?_
        rintro e w6 ⟨rfl, hD6, hf6⟩
        have hA6 := HA5.out.fdc hf6 hD6
        have HA6 := Lib.hid hA6
        have hA6' := hA6.on (below_alloc w6 (.cells #[.int .i64 1, .int .i64 2, .int .i64 1, .int .i64 2] 3))
        have hI6 := ints_new w6 [1, 2, 1, 2] (0, 0)
        have HRr : Hid (Calls Tryd.prog 18 #[rdV x ra rc, .slice (some ⟨w6.heap.size, 0, none⟩) 4 4] (w6.alloc (.cells #[.int .i64 1, .int .i64 2, .int .i64 1, .int .i64 2] 3)) fun e w' => (∃ a' c', e = .returned (rdV (restRD x [1, 2, 1, 2]) a' c') ∧ LstS w' a' c' (restRD x [1, 2, 1, 2]).l) ∧ Below (w6.alloc (.cells #[.int .i64 1, .int .i64 2, .int .i64 1, .int .i64 2] 3)).heap.size (w6.alloc (.cells #[.int .i64 1, .int .i64 2, .int .i64 1, .int .i64 2] 3)) w') :=
          rrestT x d _ [1, 2, 1, 2] 4 4 hA6'.ls HTie.out.1 (by have := HTie.out.2.1; omega) hI6 rfl
        have HA6' := Lib.hid hA6'
        have hg76 := hA6.g7
        clear hA6 hD6 hf6 HRc HA5 hI6 hA6'
        obtain ⟨r, s, l, cr, ar, lf⟩ := x
        unfold rdC at hg76
        unfold rdV rdC at HRr
        dsimp only at hg76 HRr
        generalize hLn : l.length = L at *
        obtain ⟨c0, c1, c2, c3, c4, c5⟩ := rd_cells hg76
        clear hg76
        go_wp2_with fail
        refine HRr.out.mono ?_
        rintro e w7 ⟨⟨a7, c7, rfl, hl7⟩, hb7⟩
        have hA7 := HA6'.out.on hb7
        have hT7 := tie_rest HTie.out.1 [1, 2, 1, 2]
        have hll : (restRD ⟨r, s, l, cr, ar, lf⟩ [1, 2, 1, 2]).l.length ≤ 150 := by show (restR l _).length ≤ 150; rw [length_restR]; have := HTie.out.2.1; omega
        have hsz := keeps_size d (0, 0) [111, 116, 104, 101, 114]
        rw [HTie.out.2.2.1, HTie.out.2.2.2] at hsz
        have HSZ := Lib.hid hsz
        generalize restRD ⟨r, s, l, cr, ar, lf⟩ [1, 2, 1, 2] = X7 at *
        have hA8 := hA7.six X7 a7 c7 hl7
        have hg77 := hA7.g7
        obtain ⟨r7, s7, l7, cr7, ar7, lf7⟩ := X7
        unfold rdC at hg77
        dsimp only at hl7 hll hA8 hg77 ⊢
        rw [hLn] at hg77
        obtain ⟨d0, d1, d2, d3, d4, d5⟩ := rd_cells hg77
        have FZ := Lib.hid (fun o => frozen_of (o := o) hg77)
        have z0 := FZ.out 0
        have z1 := FZ.out 1
        have z2 := FZ.out 2
        have z3 := FZ.out 3
        have z4 := FZ.out 4
        have z5 := FZ.out 5
        have HA8 := Lib.hid hA8
        have HT7 := Lib.hid hT7
        generalize hL7 : l7.length = L7 at *
        have HL7 := Lib.hid hL7
        clear hA7 hT7 hl7 hb7 HRr HA6 HA6' hA8 hg77 FZ hsz HTie hL7 hLn c0 c1 c2 c3 c4 c5
        go_wp2_with fail
        clear d0 d1 d2 d3 d4 d5 z0 z1 z2 z3 z4 z5
        generalize ((((((w7.setCell ⟨B7, 0, none⟩ (.int .i64 r7)).setCell ⟨B7, 1, none⟩ (.int .i64 s7)).setCell ⟨B7, 2, none⟩ (.slice a7 L7 c7)).setCell ⟨B7, 3, none⟩ (.bool cr7)).setCell ⟨B7, 4, none⟩ (.bool ar7)).setCell ⟨B7, 5, none⟩ (.int .i64 lf7)) = w8 at *
        generalize writeD (restartD d []) (0, 0) [111, 116, 104, 101, 114] = dP at *
        go_loopw [13, 14, 15] (fun iv _ _ wr2 => ∃ i2 : Nat, iv = .int .i64 i2 ∧ i2 ≤ L7 ∧ Hid (Below w8.heap.size w8 wr2)) (fun iv _ _ _ => L7 - (intOf iv).toNat)
        case atStart => exact ⟨0, rfl, Nat.zero_le _, Below.refl _ _⟩
        case round =>
          obtain ⟨i2, rfl, hi2, HB2⟩ := hrel
          have HAr := Lib.hid (HA8.out.on HB2.out)
          have hgr := HAr.out.g7
          unfold rdC at hgr
          dsimp only at hgr
          rw [HL7.out] at hgr
          by_cases hlt : i2 < L7
          · have r1 : decide ((i2 : Int) < (L7 : Int)) = true := decide_eq_true (by omega)
            have r2 : decide ((i2 : Int) < 300) = true := decide_eq_true (by omega)
            have r3 : (0 : Int) ≤ (i2 : Int) := by omega
            have r4 : (i2 : Int) < (L7 : Int) := by omega
            have hil : i2 < l7.length := by rw [HL7.out]; exact hlt
            obtain ⟨b, o, rfl, hsec⟩ := HAr.out.ls.1 i2 hil
            obtain ⟨u0, u1, u2, _, _⟩ := hsec.cells
            have hrd := clone_reads HT7.out (List.getElem_mem hil)
            obtain ⟨_, _, m2, _, _, _⟩ := rd_cells hgr
            have hlen64 : (l7[i2]).safe.length = 64 := (HT7.out.ok _ (List.getElem_mem hil)).1.1
            generalize l7[i2] = y at *
            obtain ⟨⟨x1, x2⟩, sa, no, pe⟩ := y
            dsimp only at u0 u1 u2 hrd hlen64
            have GS : Hid (∀ U, Below wr.heap.size wr U → U.cell? ⟨B7, 2, none⟩ = some (.slice (some ⟨b, o, none⟩) L7 c7)) := fun U hU => (hU.cell (block_lt_of_cell m2)).trans m2
            have Q0 : Hid (∀ U, Below wr.heap.size wr U → U.cell? ⟨b, o + i2 * 5, none⟩ = some (.int .i64 x1)) := fun U hU => (hU.cell (block_lt_of_cell u0)).trans u0
            have Q1 : Hid (∀ U, Below wr.heap.size wr U → U.cell? ⟨b, o + i2 * 5 + 1, none⟩ = some (.int .i64 x2)) := fun U hU => (hU.cell (block_lt_of_cell u1)).trans u1
            have Q2 : Hid (∀ U, Below wr.heap.size wr U → U.cell? ⟨b, o + i2 * 5 + 2, none⟩ = some (.string (bs sa))) := fun U hU => (hU.cell (block_lt_of_cell u2)).trans u2
            have HRd : Hid (∀ U, Below wr.heap.size wr U → Calls Tryd.prog 19 #[.pointer (some ⟨cq, 0, none⟩), .int .i64 x1, .int .i64 x2] U (GotC U sa)) := fun U hU => (read_ (HAr.out.dc.on hU) (x1, x2)).mono fun e w' h => got_of8 h hrd
            have H64 := Lib.hid hlen64
            clear u0 u1 u2 hrd hlen64 hsec hgr
            go_wp2_with fail
            clear m2
            refine wp_region_noPanic ?_
            refine wp_region_held_drew (S := fun U => Below wr.heap.size wr U) (by kernel_rfl) (below_drew _) (fun hHeld => ?_)
            refine take_at 0 (.pointer (some ⟨cq, 0, none⟩)) rfl (by kernel_rfl) (by kernel_rfl) (by kernel_rfl) (fun _ _ _ h => h) (Or.inl ⟨by rfl, ?_⟩) (by assumption) ?_
            · intro V hSV; go_simp
            simp only [Act.put, List.setIfInBounds_toArray, List.set_cons_zero, List.set_cons_succ]
            refine take_at 1 (.pointer (some ⟨B7, 2, none⟩)) rfl (by kernel_rfl) (by kernel_rfl) (by kernel_rfl) (fun _ _ _ h => h) (Or.inl ⟨by rfl, ?_⟩) (by assumption) ?_
            · intro V hSV; go_simp
            simp only [Act.put, List.setIfInBounds_toArray, List.set_cons_zero, List.set_cons_succ]
            refine take_at 2 (.slice (some ⟨b, o, none⟩) L7 c7) rfl (by kernel_rfl) (by kernel_rfl) (by kernel_rfl) (fun _ _ _ h => h) (Or.inl ⟨by rfl, ?_⟩) (by assumption) ?_
            · intro V hSV; have e0 := GS.out V hSV; go_simp
            simp only [Act.put, List.setIfInBounds_toArray, List.set_cons_zero, List.set_cons_succ]
            refine take_at 3 (.int .i64 i2) rfl (by kernel_rfl) (by kernel_rfl) (by kernel_rfl) (fun _ _ _ h => h) (Or.inl ⟨by rfl, ?_⟩) (by assumption) ?_
            · intro V hSV; go_simp
            simp only [Act.put, List.setIfInBounds_toArray, List.set_cons_zero, List.set_cons_succ]
            refine take_at 4 (.pointer (some ⟨b, o + i2 * 5, none⟩)) rfl (by kernel_rfl) (by kernel_rfl) (by kernel_rfl) (fun _ _ _ h => h) (Or.inl ⟨by rfl, ?_⟩) (by assumption) ?_
            · intro V hSV; go_simp
            simp only [Act.put, List.setIfInBounds_toArray, List.set_cons_zero, List.set_cons_succ]
            refine take_at 5 (.pointer (some ⟨b, o + i2 * 5, none⟩)) rfl (by kernel_rfl) (by kernel_rfl) (by kernel_rfl) (fun _ _ _ h => h) (Or.inl ⟨by rfl, ?_⟩) (by assumption) ?_
            · intro V hSV; go_simp
            simp only [Act.put, List.setIfInBounds_toArray, List.set_cons_zero, List.set_cons_succ]
            refine take_at 6 (.int .i64 x1) rfl (by kernel_rfl) (by kernel_rfl) (by kernel_rfl) (fun _ _ _ h => h) (Or.inl ⟨by rfl, ?_⟩) (by assumption) ?_
            · intro V hSV; have e0 := Q0.out V hSV; go_simp
            simp only [Act.put, List.setIfInBounds_toArray, List.set_cons_zero, List.set_cons_succ]
            refine take_at 7 (.pointer (some ⟨B7, 2, none⟩)) rfl (by kernel_rfl) (by kernel_rfl) (by kernel_rfl) (fun _ _ _ h => h) (Or.inl ⟨by rfl, ?_⟩) (by assumption) ?_
            · intro V hSV; go_simp
            simp only [Act.put, List.setIfInBounds_toArray, List.set_cons_zero, List.set_cons_succ]
            refine take_at 8 (.slice (some ⟨b, o, none⟩) L7 c7) rfl (by kernel_rfl) (by kernel_rfl) (by kernel_rfl) (fun _ _ _ h => h) (Or.inl ⟨by rfl, ?_⟩) (by assumption) ?_
            · intro V hSV; have e0 := GS.out V hSV; go_simp
            simp only [Act.put, List.setIfInBounds_toArray, List.set_cons_zero, List.set_cons_succ]
            refine take_at 9 (.int .i64 i2) rfl (by kernel_rfl) (by kernel_rfl) (by kernel_rfl) (fun _ _ _ h => h) (Or.inl ⟨by rfl, ?_⟩) (by assumption) ?_
            · intro V hSV; go_simp
            simp only [Act.put, List.setIfInBounds_toArray, List.set_cons_zero, List.set_cons_succ]
            refine take_at 10 (.pointer (some ⟨b, o + i2 * 5, none⟩)) rfl (by kernel_rfl) (by kernel_rfl) (by kernel_rfl) (fun _ _ _ h => h) (Or.inl ⟨by rfl, ?_⟩) (by assumption) ?_
            · intro V hSV; go_simp
            simp only [Act.put, List.setIfInBounds_toArray, List.set_cons_zero, List.set_cons_succ]
            refine take_at 11 (.pointer (some ⟨b, o + i2 * 5 + 1, none⟩)) rfl (by kernel_rfl) (by kernel_rfl) (by kernel_rfl) (fun _ _ _ h => h) (Or.inl ⟨by rfl, ?_⟩) (by assumption) ?_
            · intro V hSV; go_simp
            simp only [Act.put, List.setIfInBounds_toArray, List.set_cons_zero, List.set_cons_succ]
            refine take_at 12 (.int .i64 x2) rfl (by kernel_rfl) (by kernel_rfl) (by kernel_rfl) (fun _ _ _ h => h) (Or.inl ⟨by rfl, ?_⟩) (by assumption) ?_
            · intro V hSV; have e0 := Q1.out V hSV; go_simp
            simp only [Act.put, List.setIfInBounds_toArray, List.set_cons_zero, List.set_cons_succ]
            refine wpAnyH_ready (rs := [13]) (by kernel_rfl) (by simp) ?_
            refine AllReadyH.cons rfl (fun KK hK => ?_) AllReadyH.nil
            go_simp
            go_wp2_with (first | (go_at_call 19; refine (HRd.out _ (below_drew _)).mono ?_; rintro e U ⟨gq, rfl, hgq, hhq, hbq⟩))
            refine hK.out _ _ ?_ (fun hHeld13 => ?_)
            · exact below_step (by assumption) hbq
            clear hK KK
            refine take_at 14 (.tuple #[.slice (some ⟨gq, 0, none⟩) 64 64, .nilIface]) rfl (by kernel_rfl) (by kernel_rfl) (by kernel_rfl) (fun _ _ _ h => h) (Or.inl ⟨by rfl, ?_⟩) (by assumption) ?_
            · intro V hSV; go_simp
            simp only [Act.put, List.setIfInBounds_toArray, List.set_cons_zero, List.set_cons_succ]
            refine take_at 15 (.slice (some ⟨gq, 0, none⟩) 64 64) rfl (by kernel_rfl) (by kernel_rfl) (by kernel_rfl) (fun _ _ _ h => h) (Or.inl ⟨by rfl, ?_⟩) (by assumption) ?_
            · intro V hSV; go_simp
            simp only [Act.put, List.setIfInBounds_toArray, List.set_cons_zero, List.set_cons_succ]
            refine take_at 16 (.nilIface) rfl (by kernel_rfl) (by kernel_rfl) (by kernel_rfl) (fun _ _ _ h => h) (Or.inl ⟨by rfl, ?_⟩) (by assumption) ?_
            · intro V hSV; go_simp
            simp only [Act.put, List.setIfInBounds_toArray, List.set_cons_zero, List.set_cons_succ]
            refine take_at 17 (.slice (some ⟨gq, 0, none⟩) 64 64) rfl (by kernel_rfl) (by kernel_rfl) (by kernel_rfl) (fun _ _ _ h => h) (Or.inl ⟨by rfl, ?_⟩) (by assumption) ?_
            · intro V hSV; go_simp
            simp only [Act.put, List.setIfInBounds_toArray, List.set_cons_zero, List.set_cons_succ]
            refine take_at 18 (.nilIface) rfl (by kernel_rfl) (by kernel_rfl) (by kernel_rfl) (fun _ _ _ h => h) (Or.inl ⟨by rfl, ?_⟩) (by assumption) ?_
            · intro V hSV; go_simp
            simp only [Act.put, List.setIfInBounds_toArray, List.set_cons_zero, List.set_cons_succ]
            refine wpAnyH_done (by kernel_rfl) ?_ _
            refine NoPanic.normal ?_
            have HBU := Lib.hid hHeld13
            have HCV : Hid (∀ U', Below U.heap.size U U' → (convert 39 9 (.slice (some ⟨gq, 0, none⟩) 64 64)).run Tryd.prog U' = .ok (.string (bs sa)) U') := fun U' hU' => conv_ U' _ 64 64 sa H64.out.symm ((ct_bytes 5 hhq).on hU')
            have GS2 : Hid (∀ U', Below U.heap.size U U' → U'.cell? ⟨B7, 2, none⟩ = some (.slice (some ⟨b, o, none⟩) L7 c7)) := fun U' hU' => GS.out U' (below_step HBU.out hU')
            have Q22 : Hid (∀ U', Below U.heap.size U U' → U'.cell? ⟨b, o + i2 * 5 + 2, none⟩ = some (.string (bs sa))) := fun U' hU' => Q2.out U' (below_step HBU.out hU')
            clear hHeld hHeld13 hgq hhq hbq HRd GS Q0 Q1 Q2 H64
            generalize bs sa = sS at *
            go_wp2_with fail
            refine wp_region_noPanic ?_
            refine wp_region_held_drew (S := fun U' => Below U.heap.size U U') (by kernel_rfl) (below_drew _) (fun hHeld => ?_)
            refine take_at 0 (.nilIface) rfl (by kernel_rfl) (by kernel_rfl) (by kernel_rfl) (fun _ _ _ h => h) (Or.inl ⟨by rfl, ?_⟩) (by assumption) ?_
            · intro V hSV; go_simp
            simp only [Act.put, List.setIfInBounds_toArray, List.set_cons_zero, List.set_cons_succ]
            refine take_at 1 (.bool false) rfl (by kernel_rfl) (by kernel_rfl) (by kernel_rfl) (fun _ _ _ h => h) (Or.inl ⟨by rfl, ?_⟩) (by assumption) ?_
            · intro V hSV; go_simp
            simp only [Act.put, List.setIfInBounds_toArray, List.set_cons_zero, List.set_cons_succ]
            refine take_at 2 (.bool false) rfl (by kernel_rfl) (by kernel_rfl) (by kernel_rfl) (fun _ _ _ h => h) (Or.inl ⟨by rfl, ?_⟩) (by assumption) ?_
            · intro V hSV; go_simp
            simp only [Act.put, List.setIfInBounds_toArray, List.set_cons_zero, List.set_cons_succ]
            refine take_at 3 (.slice (some ⟨gq, 0, none⟩) 64 64) rfl (by kernel_rfl) (by kernel_rfl) (by kernel_rfl) (fun _ _ _ h => h) (Or.inl ⟨by rfl, ?_⟩) (by assumption) ?_
            · intro V hSV; go_simp
            simp only [Act.put, List.setIfInBounds_toArray, List.set_cons_zero, List.set_cons_succ]
            refine take_at 4 (.string sS) rfl (by kernel_rfl) (by kernel_rfl) (by kernel_rfl) (fun _ _ _ h => h) (Or.inl ⟨by rfl, ?_⟩) (by assumption) ?_
            · intro V hSV; have e0 := HCV.out V hSV; go_simp
            simp only [Act.put, List.setIfInBounds_toArray, List.set_cons_zero, List.set_cons_succ]
            refine take_at 5 (.pointer (some ⟨B7, 2, none⟩)) rfl (by kernel_rfl) (by kernel_rfl) (by kernel_rfl) (fun _ _ _ h => h) (Or.inl ⟨by rfl, ?_⟩) (by assumption) ?_
            · intro V hSV; go_simp
            simp only [Act.put, List.setIfInBounds_toArray, List.set_cons_zero, List.set_cons_succ]
            refine take_at 6 (.slice (some ⟨b, o, none⟩) L7 c7) rfl (by kernel_rfl) (by kernel_rfl) (by kernel_rfl) (fun _ _ _ h => h) (Or.inl ⟨by rfl, ?_⟩) (by assumption) ?_
            · intro V hSV; have e0 := GS2.out V hSV; go_simp
            simp only [Act.put, List.setIfInBounds_toArray, List.set_cons_zero, List.set_cons_succ]
            refine take_at 7 (.int .i64 i2) rfl (by kernel_rfl) (by kernel_rfl) (by kernel_rfl) (fun _ _ _ h => h) (Or.inl ⟨by rfl, ?_⟩) (by assumption) ?_
            · intro V hSV; go_simp
            simp only [Act.put, List.setIfInBounds_toArray, List.set_cons_zero, List.set_cons_succ]
            refine take_at 8 (.pointer (some ⟨b, o + i2 * 5, none⟩)) rfl (by kernel_rfl) (by kernel_rfl) (by kernel_rfl) (fun _ _ _ h => h) (Or.inl ⟨by rfl, ?_⟩) (by assumption) ?_
            · intro V hSV; go_simp
            simp only [Act.put, List.setIfInBounds_toArray, List.set_cons_zero, List.set_cons_succ]
            refine take_at 9 (.pointer (some ⟨b, o + i2 * 5 + 2, none⟩)) rfl (by kernel_rfl) (by kernel_rfl) (by kernel_rfl) (fun _ _ _ h => h) (Or.inl ⟨by rfl, ?_⟩) (by assumption) ?_
            · intro V hSV; go_simp
            simp only [Act.put, List.setIfInBounds_toArray, List.set_cons_zero, List.set_cons_succ]
            refine take_at 10 (.string sS) rfl (by kernel_rfl) (by kernel_rfl) (by kernel_rfl) (fun _ _ _ h => h) (Or.inl ⟨by rfl, ?_⟩) (by assumption) ?_
            · intro V hSV; have e0 := Q22.out V hSV; go_simp
            simp only [Act.put, List.setIfInBounds_toArray, List.set_cons_zero, List.set_cons_succ]
            refine take_at 11 (.bool false) rfl (by kernel_rfl) (by kernel_rfl) (by kernel_rfl) (fun _ _ _ h => h) (Or.inl ⟨by rfl, ?_⟩) (by assumption) ?_
            · intro V hSV; go_simp
            simp only [Act.put, List.setIfInBounds_toArray, List.set_cons_zero, List.set_cons_succ]
            refine take_at 12 (.bool false) rfl (by kernel_rfl) (by kernel_rfl) (by kernel_rfl) (fun _ _ _ h => h) (Or.inl ⟨by rfl, ?_⟩) (by assumption) ?_
            · intro V hSV; go_simp
            simp only [Act.put, List.setIfInBounds_toArray, List.set_cons_zero, List.set_cons_succ]
            refine wpAnyH_done (by kernel_rfl) ?_ _
            refine NoPanic.normal ?_
            have HB3 := Lib.hid (below_step (below_step HB2.out HBU.out) (below_drew U))
            clear hHeld HCV GS2 Q22 HBU
            go_wp2_with fail
            go_roundw
            case rel => exact ⟨i2 + 1, by go_num, by omega, HB3⟩
            case measure => simp [intOf]; omega
          · have r1 : decide ((i2 : Int) < (L7 : Int)) = false := decide_eq_false (by omega)
            obtain ⟨_, _, m2, _, _, _⟩ := rd_cells hgr
            have HSi : Hid (Calls Tryd.prog 20 #[.pointer (some ⟨p, 0, none⟩)] wr fun e w' => e = .returned (.tuple #[.int .i64 R, .int .i64 S]) ∧ Below wr.heap.size wr w') := (dsize_ HAr.out.dp).mono fun e w' ⟨h1, h2⟩ => ⟨h1.trans (by rw [HSZ.out.1, HSZ.out.2]), h2⟩
            clear hgr
            go_wp2_with fail
            refine HSi.out.mono ?_
            rintro e w9 ⟨rfl, hb9⟩
            have hg9 := (hb9.block _ (blk_lt HAr.out.g2)).trans HAr.out.g2
            have c0 : w9.cell? ⟨w.heap.size, 0, none⟩ = some (.int .i64 R) := cell_of hg9 rfl
            have c1 : w9.cell? ⟨w.heap.size, 1, none⟩ = some (.int .i64 S) := cell_of hg9 rfl
            have HB9 := Lib.hid (below_step HAr.out.bw hb9)
            clear hg9 hb9 m2 HSi
            go_wp2_with fail
            refine (sure_ _).mono ?_
            rintro e w10 ⟨rfl, hb10⟩
            have HB10 := Lib.hid (below_step HB9.out hb10)
            clear hb10
            go_wp2_with fail
            go_ret
            exact ⟨rfl, HB10.out⟩
end Go.Proofs.YtdcanhcejhaccaaDoor
