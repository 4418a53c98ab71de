/- values: a row of bytes read; rowsOf: the rows alone. -/
import Derived.Test.YtalmanfjiblhcaaGreatJ29
import Derived.Test.YtalmanfjiblhcaaGreatJ32
namespace Go.Proofs.YtalmanfjiblhcaaGreat
open Go.RowKit Go.Sort
def ValTo (w : World) (vs : List Rw.Val) (e : Ending) (w' : World) : Prop :=
 ∃ a c, e = .returned (.slice a vs.length c) ∧ (Rw.ValsIn w' a vs ∧ ∀ b o, a = some ⟨b, o, none⟩ → w.heap.size ≤ b) ∧ Below w.heap.size w w'
set_option maxRecDepth 100000 in
set_option maxHeartbeats 1000000 in
theorem fvalues_ {w : World} {nm : ByteArray} {a : Option Addr} {c : Nat} {cs : List Rw.Col} (hc : Tb.ColsIn w a cs) (hcl : cs.length ≤ 16) {r : Vl} {vs : List Rw.Val} (hr : RowAt w r (bs (Rw.rowB vs))) (hw : ∀ v ∈ vs, Rw.inI v.n) (hwt : Rw.wtV vs ≤ 1048576) (h0 : Rw.chkR cs vs = 0) :
 Calls Tryz.prog 27 #[.agg #[.string nm, .slice a cs.length c], .slice r.a r.n r.c] w (ValTo w vs) := by
 obtain ⟨M, hM⟩ : ∃ M, cs.length = M := ⟨_, rfl⟩
 obtain ⟨W1, hW1⟩ : ∃ W1, w.alloc (.cells #[.string nm, .slice a M c] 44) = W1 := ⟨_, rfl⟩
 have hb1 : Below w.heap.size w W1 := by rw [← hW1]; exact below_alloc _ _
 have hk1 : W1.heap[w.heap.size]? = some (.cells #[.string nm, .slice a M c] 44 (0, 0)) := by rw [← hW1]; exact new_blk _ _
 have k0 : W1.cell? ⟨w.heap.size, 0, none⟩ = some (.string nm) := cell_of hk1 rfl
 have k1 : W1.cell? ⟨w.heap.size, 1, none⟩ = some (.slice a M c) := cell_of hk1 rfl
 have hns := ns_bs (Rw.rowB_byte vs)
 have HD : Hid (Calls Tryz.prog 52 #[.agg #[.string nm, .slice a M c], .slice r.a r.n r.c] W1 (Rw.DecOk W1 vs.length vs)) := by
  obtain ⟨e1, e2, e3⟩ := (hr.on hb1).bytes
  rw [hns] at e1 e2
  obtain ⟨_, _, e4, _, _, e5, _⟩ := row_shape (hr.on hb1).own
  simp only [Value.slice.injEq] at e4
  obtain ⟨_, e6, e7⟩ := e4
  have hcp : (Rw.rowB vs).length ≤ r.c := by rw [← e1, e7]; rw [e6]; exact e5
  have := Rw.decOk (nm := nm) (ct := c) (c1 := r.c) (show Rw.ColsIn w a cs from hc) hb1 (show Rw.BytesIn W1 r.a (Rw.rowB vs) from e2) hw (by omega) hwt h0 hcp
  rw [hM, ← e1] at this
  exact this
 have HB1 := Lib.hid hb1
 unfold Rw.DecOk at HD
 unfold ValTo
 rw [hM]
 generalize vs.length = L at *
 clear hk1 hns hr hc hw hwt h0 hb1 hcl hM
 go_enter Tryz.func27, Tryz.ntmps27
 go_upto_region 1 with fail
 try rw [hW1]
 go_wp2_with (first | (go_at_call 52; refine HD.out.mono ?_; rintro e w2 ⟨a2, c2, rfl, ⟨hv, hfr⟩, hb2⟩; have HV := Lib.hid (And.intro hv (And.intro hfr hb2)); clear hv hfr hb2 HD) | fail)
 go_ret
 exact ⟨a2, c2, rfl, ⟨HV.out.1, fun b o e => Nat.le_trans HB1.out.size (HV.out.2.1 b o e)⟩, below_step HB1.out HV.out.2.2⟩
def arC (x : SnV) : List Value := [.int .i64 x.p, .slice x.r.a x.r.n x.r.c]
def arCs (l : List SnV) : List Value := l.flatMap arC
theorem arCs_at : ∀ (l : List SnV) (i : Nat) (h : i < l.length), (arCs l)[i * 2]? = some (.int .i64 l[i].p) ∧ (arCs l)[i * 2 + 1]? = some (.slice l[i].r.a l[i].r.n l[i].r.c)
 | x :: l, 0, _ => ⟨rfl, rfl⟩
 | x :: l, i + 1, h => by
   have ih := arCs_at l i (by simpa using h)
   have e : arCs (x :: l) = .int .i64 x.p :: .slice x.r.a x.r.n x.r.c :: arCs l := rfl
   rw [e, show (i + 1) * 2 = i * 2 + 1 + 1 by omega]
   simp only [List.getElem?_cons_succ, List.getElem_cons_succ]
   exact ih
theorem arCs_one (l : List SnV) : ∀ u ∈ arCs l, u.oneCell' = true := fun u hu => by
 obtain ⟨c, _, hc⟩ := List.mem_flatMap.1 hu
 simp only [arC, List.mem_cons, List.not_mem_nil, or_false] at hc
 rcases hc with rfl | rfl <;> rfl
def RowA (w : World) (B : Nat) (v : Value) (l : List SnV) : Prop := w.ownsRow B 54 2 v l.length (arCs l)
theorem infoAr : (Tryz.prog.info? 54).map (fun i => (i.zero, i.size, i.bytes)) = some (some (.agg #[.int .i64 0, .slice none 0 0]), 2, 32) := by kernel_rfl
theorem app_ar {w : World} {B b : Nat} {v : Value} {l : List SnV} {x : SnV} (hown : RowA w B v l) (hb : w.heap[b]? = some (.cells #[.int .i64 x.p, .slice x.r.a x.r.n x.r.c] 54 (0, 0))) (hl : l.length ≤ 100000000) (hN : B ≤ w.heap.size) :
 ∃ a n c w', (Builtin.append_ #[39, 39] 39 #[v, .slice (some ⟨b, 0, none⟩) 1 1]).run Tryz.prog w = .ok (.slice a n c) w' ∧ RowA w' B (.slice a n c) (l ++ [x]) ∧ w.grownBy w' v.ownBlock := by
 obtain ⟨i0, hi, hz0, hz1, hz2⟩ := info_parts infoAr
 have hnews : ∀ j u, (arC x)[j]? = some u → w.cell? ((⟨b, 0, none⟩ : Addr).add j) = some u := fun j u hj => by
  rw [Addr.add_lit, Nat.zero_add]
  exact cell_of hb (by simpa [arC] using hj)
 obtain ⟨v', w', hr, h2, h3, _, h5⟩ := run_append_own_at (P := Tryz.prog) w B 39 39 54 i0 (.agg #[.int .i64 0, .slice none 0 0]) 2 32 Tryz.underlying39 hi hz0 hz1 hz2 rfl (by decide) v l.length (arCs l) hown ⟨b, 0, none⟩ 1 1 (arC x) rfl hnews (fun u hu => arCs_one [x] u (by simpa [arCs] using hu)) (by unfold maxLen; omega) (by omega) hN
 have ho : RowA w' B v' (l ++ [x]) := by
  unfold RowA
  have e : arCs (l ++ [x]) = arCs l ++ arC x := by simp [arCs]
  rw [e, List.length_append]
  exact h2
 obtain ⟨a, c, rfl, _⟩ := row_shape ho
 exact ⟨a, _, c, w', hr, ho, h3⟩
def RowsOfTo (w : World) (l : List SnV) (e : Ending) (w' : World) : Prop := ∃ v, e = .returned v ∧ RowA w' w.heap.size v l ∧ Below w.heap.size w w'
set_option maxRecDepth 100000 in
set_option maxHeartbeats 1000000 in
theorem rowsOf_ {w : World} {g : Option Addr} {c : Nat} {l : List SnV} (h : l ≠ [] → ∃ b, g = some ⟨b, 0, none⟩ ∧ SnsAt w b l) (hl : l.length ≤ 100000000) :
 Calls Tryz.prog 30 #[.slice g l.length c] w (RowsOfTo w l) := by
 have H := Lib.hid h
 obtain ⟨N, hN⟩ : ∃ N, l.length = N := ⟨_, rfl⟩
 have HN := Lib.hid hN
 unfold RowsOfTo
 rw [hN]
 clear h hN
 go_enter Tryz.func30, Tryz.ntmps30
 go_wp2_with fail
 go_loopw [3, 8] (fun v iv wr => ∃ k : Nat, k ≤ N ∧ iv = .int .i64 k ∧ Hid (RowA wr w.heap.size v (l.take k) ∧ Below w.heap.size w wr)) (fun _ iv _ => N - (intOf iv).toNat)
 case atStart => exact ⟨0, Nat.zero_le _, rfl, World.ownsRow_nil _ _ _ _, Below.refl _ _⟩
 case round =>
  obtain ⟨k, hk, rfl, HR⟩ := hrel
  by_cases hlt : k < N
  · have hkl : k < l.length := by rw [HN.out]; exact hlt
    obtain ⟨b, rfl, hs⟩ := H.out (fun e => by rw [e] at hkl; simp at hkl)
    obtain ⟨y0, y1, y2⟩ := hs k hkl
    have y0 := (HR.out.2.cell (block_lt_of_cell y0)).trans y0
    have y1 := (HR.out.2.cell (block_lt_of_cell y1)).trans y1
    have y2 := (HR.out.2.cell (block_lt_of_cell y2)).trans y2
    have hkI : (k : Int) < (N : Int) := by omega
    obtain ⟨X, hX⟩ : ∃ X, X = l[k] := ⟨_, rfl⟩
    have HX := Lib.hid hX
    rw [← hX] at y0 y1 y2
    clear hX hs
    obtain ⟨xk, xp, xa, xn, xc⟩ := X
    simp only at y0 y1 y2
    obtain ⟨W2, hW2⟩ : ∃ W2, (wr.alloc (.cells #[.string xk, .int .i64 xp, .slice xa xn xc] 105)).alloc (.cells #[.int .i64 xp, .slice xa xn xc] 54) = W2 := ⟨_, rfl⟩
    have hb2 : Below wr.heap.size wr W2 := by rw [← hW2]; exact below_step (below_alloc _ _) (below_alloc _ _)
    have hs2 : (wr.alloc (.cells #[.string xk, .int .i64 xp, .slice xa xn xc] 105)).heap.size = wr.heap.size + 1 := by simp [go_sem]
    have hk2 : W2.heap[wr.heap.size + 1]? = some (.cells #[.int .i64 xp, .slice xa xn xc] 54 (0, 0)) := by
     have := new_blk (wr.alloc (.cells #[.string xk, .int .i64 xp, .slice xa xn xc] 105)) (.cells #[.int .i64 xp, .slice xa xn xc] 54)
     rw [hW2, hs2] at this
     exact this
    have hbw := below_step HR.out.2 hb2
    have hlk : (l.take k).length = k := by rw [List.length_take]; omega
    have hro : RowA W2 w.heap.size _ (l.take k) := row_on HR.out.1 hb2
    obtain ⟨a5, n5, c5, w5, hap, hrow5, hg5⟩ := app_ar (x := ⟨xk, xp, ⟨xa, xn, xc⟩⟩) hro hk2 (by omega) hbw.size
    have HNx : Hid (RowA w5 w.heap.size (.slice a5 n5 c5) (l.take (k + 1)) ∧ Below w.heap.size w w5) := by
     refine ⟨?_, hbw.grown hg5 hbw.size fun q hq => (World.ownsRow.lt hro q hq).1⟩
     rw [List.take_succ_eq_append_getElem hkl, ← HX.out]
     exact hrow5
    clear hb2 hk2 hbw hro hrow5 hg5 hs2 hlk
    go_wp2_with (first
     | (refine Tb.wpList_exec rfl (exec_append rfl rfl rfl hap) ?_; clear hap)
     | fail)
    go_roundw
    case rel => exact ⟨k + 1, by omega, by go_num, HNx.out⟩
    case measure => simp [intOf]; omega
  · obtain rfl : k = N := by omega
    go_wp2_with fail
    go_ret
    refine ⟨_, rfl, ?_, HR.out.2⟩
    have := HR.out.1
    rw [show l.take k = l by rw [← HN.out, List.take_length]] at this
    exact this
end Go.Proofs.YtalmanfjiblhcaaGreat
