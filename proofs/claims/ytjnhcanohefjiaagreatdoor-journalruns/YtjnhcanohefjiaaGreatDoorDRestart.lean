/- The walk of Restart. -/
import Derived.Test.YtjnhcanohefjiaaGreatDoorDSort
import Derived.Test.YtjnhcanohefjiaaGreatDoorDChosen
namespace Go.Proofs.YtjnhcanohefjiaaGreatDoor
open Go.RowKit Go.Sort Go.Maps

/-- The cells behind a slice of numbers. -/
def IntsIn (w : World) (a : Option Addr) (zs : List Int) : Prop := ∀ i (h : i < zs.length), ∃ b o, a = some ⟨b, o, none⟩ ∧ w.cell? ⟨b, o + i, none⟩ = some (.int .i64 zs[i])
theorem IntsIn.on {w w' : World} {a : Option Addr} {zs : List Int} (h : IntsIn w a zs) (hb : Below w.heap.size w w') : IntsIn w' a zs := by
  intro i hi
  obtain ⟨b, o, e, h1⟩ := h i hi
  exact ⟨b, o, e, (hb.cell (block_lt_of_cell h1)).trans h1⟩
theorem intsIn_nil (w : World) (a : Option Addr) : IntsIn w a [] := fun i hi => by simp at hi
theorem cell_block {w w' : World} {b o : Nat} (e : w'.heap[b]? = w.heap[b]?) : w'.cell? ⟨b, o, none⟩ = w.cell? ⟨b, o, none⟩ := by simp [World.cell?, e]
theorem cells_of {w : World} {b o : Nat} {v : Value} (h : w.cell? ⟨b, o, none⟩ = some v) : ∃ c t z, w.heap[b]? = some (.cells c t z) := by
  simp only [World.cell?] at h
  split at h
  · rename_i c t z hb; exact ⟨c, t, z, hb⟩
  · cases h
/-- A cell that is none of the device's stays. -/
theorem Fd.cell {p a b k o : Nat} {w w' : World} {d : Dev} {K : Nat} {v : Value} (h : Fd p a b w w') (hd : DevIn w p a b d K) (hk : w.cell? ⟨k, o, none⟩ = some v) (hp : k ≠ p) : w'.cell? ⟨k, o, none⟩ = some v := by
  obtain ⟨c, t, z, hb⟩ := cells_of hk
  rw [cell_block (h.block k (blk_lt hb) hp (fun e => ?_) (fun e => ?_))]
  · exact hk
  · obtain ⟨es, cl, hm⟩ := hd.mapA; rw [← e, hb] at hm; cases hm
  · obtain ⟨es, cl, hm⟩ := hd.mapB; rw [← e, hb] at hm; cases hm
/-- The loop of Restart under way: i sectors were chosen for. -/
structure ReIn (W : World) (p aa bb : Nat) (d : Dev) (ns : List Int) (K i : Nat) (wr : World) : Prop where
  blk : wr.heap[p]? = W.heap[p]?
  pend : wr.heap[bb]? = W.heap[bb]?
  safe : ∃ n E, wr.ownsMap Tryz.prog 132 ctE aa n E ∧ SafeIs E (goR d.safe (d.pend.take i) (ns.take i)) ∧ n + (d.pend.length - i) ≤ K
  fd : Fd p aa bb W wr
theorem clear_run {w : World} {b : Nat} {es : Array MapEntry} {cl : Nat} (t ty : TypeId) (k e : TypeId) (ht : Tryz.prog.underlying t = some (.map k e)) (hb : w.heap[b]? = some (.map es cl)) : (Builtin.clear_ #[t] ty #[.map (some b)]).run Tryz.prog w = .ok (.tuple #[]) (ChangeMaps.setBlock w b (.map #[] cl)) := by
  simp [Builtin.clear_, run_underlying ht, MapKept.run_getObj_map hb, MapKept.run_setObj_map _ hb, Result.andThen, ChangeMaps.setBlock]
theorem owns_cleared {w : World} {b : Nat} {es : Array MapEntry} {cl : Nat} (hb : w.heap[b]? = some (.map es cl)) : (ChangeMaps.setBlock w b (.map #[] cl)).ownsMap Tryz.prog 132 ctE b 0 (.map []) :=
  ⟨#[], cl, ChangeMaps.heap_setBlock_same hb _, ⟨by simp, MapKept.stamped_empty cl, by simp⟩, Nat.le_refl _, rfl⟩
theorem wpList_clear {ops : Array Oper} {rest : List Oper} {o : Oper} {a : Act} {w w' : World} {Q : Exit → Act → World → Prop} (hgd : o.guard = none) (x : Operand) (t : TypeId) (ho : o.op = .call { callee := .builtin .clear, args := #[x], argTypes := #[t] }) (xv : Value) (hx : a.eval x = xv)
    (hr : (Builtin.clear_ #[t] o.type #[xv]).run Tryz.prog w = .ok (.tuple #[]) w') (h : wpList Tryz.prog ops Q rest (a.put o.dst (.tuple #[])) w') : wpList Tryz.prog ops Q (o :: rest) a w :=
  wpList_plain hgd fun _ hK => by
    unfold Oper.wp
    simp [execOp, ho, resolve, invoke, builtin, hx, hr, Result.andThen]
    exact hK _ _ h
theorem ReIn.on {W wr V : World} {p aa bb : Nat} {d : Dev} {ns : List Int} {K i : Nat} (h : ReIn W p aa bb d ns K i wr) (hd : DevIn W p aa bb d K) (hb : Below wr.heap.size wr V) : ReIn W p aa bb d ns K i V := by
  obtain ⟨l1, l2, l3⟩ := hd.lts
  have hs := h.fd.size
  obtain ⟨n, E, h1, h2⟩ := h.safe
  exact ⟨(hb.block p (by omega)).trans h.blk, (hb.block bb (by omega)).trans h.pend, ⟨n, E, owns_keep h1 (hb.block aa h1.lt), h2⟩, h.fd.trans (below_fd hb _ _ _)⟩
/-- Behind the loop: the map is cleared, and three cells are set. -/
theorem re_tail {W V : World} {p aa bb : Nat} {d : Dev} {ns : List Int} {K i : Nat} (h : ReIn W p aa bb d ns K i V) (hd : DevIn W p aa bb d K) (hi : i = d.pend.length ∨ i = ns.length) :
    ∃ V1, (∀ ty, (Builtin.clear_ #[69] ty #[.map (some bb)]).run Tryz.prog V = .ok (.tuple #[]) V1) ∧ V1.heap[p]? = some (.cells (devC d aa bb) 71 (0, 0)) ∧
      Hid (DevIn (((V1.setCell ⟨p, 6, none⟩ (.bool false)).setCell ⟨p, 4, none⟩ (.bool false)).setCell ⟨p, 5, none⟩ (.int .i64 0)) p aa bb (restartD d ns) K ∧ Fd p aa bb W (((V1.setCell ⟨p, 6, none⟩ (.bool false)).setCell ⟨p, 4, none⟩ (.bool false)).setCell ⟨p, 5, none⟩ (.int .i64 0))) := by
  obtain ⟨es, cl, hm⟩ := hd.mapB
  have hm' := h.pend.trans hm
  have hturn : V.mapTurned (ChangeMaps.setBlock V bb (.map #[] cl)) bb := ⟨es, cl, #[], cl, hm', rfl⟩
  have hg := hturn.grown
  have hsz := h.fd.size
  obtain ⟨l1, l2, l3⟩ := hd.lts
  have hp1 : (ChangeMaps.setBlock V bb (.map #[] cl)).heap[p]? = some (.cells (devC d aa bb) 71 (0, 0)) := ((hg.block p (by omega) (fun e => hd.pb (by cases e; rfl))).trans h.blk).trans hd.blk
  refine ⟨_, fun ty => clear_run 69 ty 132 137 Tryz.underlying69 hm', hp1, ?_⟩
  have hown := owns_cleared hm'
  obtain ⟨n, E, h1, h2, h3⟩ := h.safe
  have h1' := owns_keep h1 (hg.block aa h1.lt (fun e => hd.ne (by cases e; rfl)))
  have hf : Fd p aa bb W (ChangeMaps.setBlock V bb (.map #[] cl)) := h.fd.trans (turned_fd hturn (.inr rfl))
  generalize ChangeMaps.setBlock V bb (.map #[] cl) = V1 at *
  refine ⟨?_, (hf.trans (set_fd p aa bb 6 _ _)).trans ((set_fd p aa bb 4 _ _).trans (set_fd p aa bb 5 _ _))⟩
  have hbk := heap_set (o := 5) (.int .i64 0) (heap_set (o := 4) (.bool false) (heap_set (o := 6) (.bool false) hp1))
  have hfar : ∀ k, k ≠ p → (((V1.setCell ⟨p, 6, none⟩ (.bool false)).setCell ⟨p, 4, none⟩ (.bool false)).setCell ⟨p, 5, none⟩ (.int .i64 0)).heap[k]? = V1.heap[k]? := fun k hk => by rw [heap_far _ hk, heap_far _ hk, heap_far _ hk]
  rw [goR_done d.safe d.pend ns i hi] at h2
  refine ⟨hbk, hd.ne, ⟨n, E, owns_keep h1' (hfar aa (Ne.symm hd.pa)), h2, ?_⟩, ⟨0, _, owns_keep hown (hfar bb (Ne.symm hd.pb)), PendIs.nil, Nat.zero_le _⟩, okD_restart hd.ok ns, hd.lim, ⟨by show (0 : Int) ≤ 0; omega, by show (0 : Int) ≤ _; omega⟩, hd.kl⟩
  show n + ([] : List (Pl × Ct)).length ≤ K
  simp only [List.length_nil]
  omega
theorem ready_lookup {P : Program} {l : List Oper} {Q : Exit → Act → World → Prop} {md : Region.Mode} {S : World → Prop} (i : Nat) {oi : Oper} {post : List Oper} {fuel : Nat} {listed : Array Bool} {a : Act} {w : World} (hi : l.drop i = oi :: post) (hr : Region.ready md l.toArray listed = [i]) (hw : Region.wanted oi (yielded l.toArray a.tmps) = true)
    (t : TypeId) (m x : Operand) (c : Bool) (ho : oi.op = .lookup t m x c) (mv xv v : Value) (hm : a.eval m = mv) (hx : a.eval x = xv) (hrun : (Instr.lookup t mv xv c).run P w = .ok v w) (hS : S w)
    (h : wpAnyH P md l.toArray Q S fuel (listed.setIfInBounds i true) (a.put oi.dst v) w) : wpAnyH P md l.toArray Q S (fuel + 1) listed a w :=
  ready_at i hi hr hw (.inl (by unfold execOp; simp only [ho, hm, hx, hrun, Sem.run_bind, Sem.run_pure, Result.andThen_ok])) hS h
theorem look_own {w : World} {b n : Nat} {D : DataW Unit} {k : Pl} {c : Ct} (h : w.ownsMap Tryz.prog 132 ctE b n D) (hk : inP k) (hc : D.atKey (keyL k) (ctD zeroC) = ctD c) : (Instr.lookup 69 (.map (some b)) (plV k) false).run Tryz.prog w = .ok (ctV c) w := by
  obtain ⟨v, ps, hr, hv⟩ := h.lookup (t := 69) keyed Tryz.underlying69 (zero_ct w) (ctE_ct zeroC) (key_ k hk)
  rw [hr, ctE_inv hv hc]
set_option maxRecDepth 100000 in
set_option maxHeartbeats 4000000 in
theorem restart_ {w : World} {p aa bb : Nat} {d : Dev} {K : Nat} (h : DevIn w p aa bb d K) (ca : Option Addr) (ns : List Int) (n c : Nat) (hn : ns.length = n) (hi : IntsIn w ca ns) (hcp : ∀ b o, ca = some ⟨b, o, none⟩ → b ≠ p) (hnl : n ≤ 140737488355328) :
    Calls Tryz.prog 34 #[.pointer (some ⟨p, 0, none⟩), .slice ca n c] w fun e w' => e = .returned (.tuple #[]) ∧ DevIn w' p aa bb (restartD d ns) K ∧ Fd p aa bb w w' := by
  obtain ⟨_, _, c2, c3, _, _, c6⟩ := h.cells
  have HD := Lib.hid h
  have HI := Lib.hid (inP_pend h)
  have HC := Lib.hid (And.intro hi (And.intro hcp hn))
  have HK := Lib.hid (keys_ (some bb) w)
  obtain ⟨W1, hW1⟩ : ∃ W1, W1 = w.alloc (.cells #[.map (some bb)] 69) := ⟨_, rfl⟩
  have hB1 : Below w.heap.size w W1 := by rw [hW1]; exact (Below.refl _ _).alloc (Nat.le_refl _) _
  have hm1 : W1.cell? ⟨w.heap.size, 0, none⟩ = some (.map (some bb)) := by rw [hW1]; exact cell_of (World.alloc_heap_new' _ _) rfl
  obtain ⟨np, D0, hown, hpend, hnp⟩ := (h.on hB1).pend
  have hpl : d.pend.length ≤ K := by obtain ⟨_, _, _, _, q⟩ := h.safe; omega
  have HS := Lib.hid (sortedFunc_ w.heap.size bb np D0 d.pend hpend h.ok.srt HI.out W1 hm1 hown (Nat.le_trans hnp h.kl) (Nat.le_trans hpl h.kl))
  have HW := Lib.hid hW1
  have hW1s : w.heap.size < W1.heap.size := block_lt_of_cell hm1
  have HB1 := Lib.hid hB1
  have hkl := h.kl
  clear h hi hcp hn hown hpend hnp hm1 hB1 hW1
  generalize hL : d.pend.length = L at hpl
  have HL := Lib.hid hL
  clear hL
  go_enter Tryz.func34, Tryz.ntmps34
  go_wp2_with fail
  refine HK.out.mono ?_
  rintro e w1 ⟨rfl, rfl⟩
  rw [← HW.out]
  clear HK HW
  go_wp2_with fail
  refine HS.out.mono ?_
  rintro e W ⟨⟨v, rfl, hv⟩, hb⟩
  obtain ⟨va, vc, hvv, HV⟩ : ∃ va vc, v = .slice va L vc ∧ Hid (∀ i (_ : i < L), ∃ g, va = some ⟨g, 0, none⟩ ∧ w.heap.size < g ∧ ∃ x, d.pend[i]? = some x ∧ W.cell? ⟨g, i * 2, none⟩ = some (.int .i64 x.1.1) ∧ W.cell? ⟨g, i * 2 + 1, none⟩ = some (.int .i64 x.1.2)) := by
    rcases hv with ⟨rfl, hk⟩ | ⟨g, cap, rfl, hg, hpl⟩
    · have : L = 0 := by rw [← HL.out]; simpa using congrArg List.length hk
      exact ⟨none, 0, by rw [this], fun i hi => by omega⟩
    · refine ⟨_, cap, by rw [List.length_map, HL.out], fun i hi => ?_⟩
      have hi' : i < d.pend.length := by rw [HL.out]; exact hi
      have := hpl i (by rw [List.length_map]; exact hi')
      rw [List.getElem_map] at this
      exact ⟨g, rfl, Nat.lt_of_lt_of_le hW1s hg, d.pend[i], List.getElem?_eq_getElem hi', this⟩
  subst hvv
  have HDW := Lib.hid (HD.out.on (below_step HB1.out hb))
  have HF := Lib.hid (below_fd (below_step HB1.out hb) p aa bb)
  have HCW := Lib.hid (HC.out.1.on (below_step HB1.out hb))
  have HG : Hid (∀ g : Nat, w.heap.size < g → g ≠ p ∧ g ≠ aa ∧ g ≠ bb) := fun g hg => by obtain ⟨l1, l2, l3⟩ := HD.out.lts; omega
  have hnI : (n : Int) ≤ 140737488355328 := by omega
  clear hb hv HS HB1
  go_wp2_with fail
  go_loopw [4, 5, 15] (fun _ _ iv wr => ∃ i : Nat, iv = .int .i64 i ∧ i ≤ L ∧ i ≤ n ∧ Hid (ReIn W p aa bb d ns K i wr)) (fun _ _ iv _ => L - (intOf iv).toNat)
  case atStart =>
    refine ⟨0, rfl, Nat.zero_le _, Nat.zero_le _, ?_⟩
    obtain ⟨q, E, h1, h2, h3⟩ := HDW.out.safe
    exact ⟨rfl, rfl, ⟨q, E, h1, by simpa [goR] using h2, by omega⟩, Fd.refl _ _ _ _⟩
  case round =>
    obtain ⟨i, rfl, hiL, hin, HR⟩ := hrel
    by_cases hlt : i = L
    · have hge : decide ((i : Int) < (L : Int)) = false := decide_eq_false (by omega)
      have HJ : Hid (i = d.pend.length ∨ i = ns.length) := .inl (by rw [HL.out]; exact hlt)
      have c3' : wr.cell? ⟨p, 3, none⟩ = some (.map (some bb)) := cell_of (HR.out.blk.trans HDW.out.blk) rfl
      obtain ⟨V1, hcl, hp1, HE⟩ := re_tail HR.out HDW.out HJ.out
      have s6 : V1.cell? ⟨p, 6, none⟩ = some (.bool d.crashed) := cell_of hp1 rfl
      have f6 : V1.frozen? ⟨p, 6, none⟩ = false := frozen_of hp1
      have s4 : (V1.setCell ⟨p, 6, none⟩ (.bool false)).cell? ⟨p, 4, none⟩ = some (.bool d.armed) := cell_of (heap_set _ hp1) rfl
      have f4 : (V1.setCell ⟨p, 6, none⟩ (.bool false)).frozen? ⟨p, 4, none⟩ = false := frozen_of (heap_set _ hp1)
      have s5 : ((V1.setCell ⟨p, 6, none⟩ (.bool false)).setCell ⟨p, 4, none⟩ (.bool false)).cell? ⟨p, 5, none⟩ = some (.int .i64 d.left) := cell_of (heap_set _ (heap_set _ hp1)) rfl
      have f5 : ((V1.setCell ⟨p, 6, none⟩ (.bool false)).setCell ⟨p, 4, none⟩ (.bool false)).frozen? ⟨p, 5, none⟩ = false := frozen_of (heap_set _ (heap_set _ hp1))
      have HE2 := Lib.hid (And.intro HE.out.1 (HF.out.trans HE.out.2))
      clear hp1 HE HDW HR
      go_wp2_with (first | (refine wpList_clear rfl _ 69 rfl _ rfl (hcl _) ?_) | fail)
      go_end0
      exact ⟨rfl, HE2.out⟩
    · have hlt' : decide ((i : Int) < (L : Int)) = true := decide_eq_true (by omega)
      have hiL' : (i : Int) < (L : Int) := by omega
      obtain ⟨g, hva, hg, ⟨⟨x1, x2⟩, xc⟩, hx, e0, e1⟩ := HV.out i (by omega)
      obtain ⟨hgp, hga, hgb⟩ := HG.out g hg
      have e0' : wr.cell? ⟨g, i * 2, none⟩ = some (.int .i64 x1) := HR.out.fd.cell HDW.out e0 hgp
      have e1' : wr.cell? ⟨g, i * 2 + 1, none⟩ = some (.int .i64 x2) := HR.out.fd.cell HDW.out e1 hgp
      obtain ⟨V, hVV⟩ : ∃ V, V = wr.alloc (.cells #[.int .i64 x1, .int .i64 x2] 132) := ⟨_, rfl⟩
      have hBV : Below wr.heap.size wr V := by rw [hVV]; exact (Below.refl _ _).alloc (Nat.le_refl _) _
      have hpV : V.heap[wr.heap.size]? = some (.cells #[.int .i64 x1, .int .i64 x2] 132 (0, 0)) := by rw [hVV]; exact World.alloc_heap_new' _ _
      have HR' := Lib.hid (HR.out.on HDW.out hBV)
      have HVV := Lib.hid hVV
      have HpV := Lib.hid hpV
      have hb3 : V.heap[p]? = some (.cells (devC d aa bb) 71 (0, 0)) := HR'.out.blk.trans HDW.out.blk
      have HX := Lib.hid hx
      have c2' : V.cell? ⟨p, 2, none⟩ = some (.map (some aa)) := cell_of hb3 rfl
      have c3' : V.cell? ⟨p, 3, none⟩ = some (.map (some bb)) := cell_of hb3 rfl
      subst hva
      clear e0 e1 hx hVV hpV hb3 hBV HV hlt
      by_cases hbr : i = n
      · have hbr' : ((i : Int) == (n : Int)) = true := by simp; omega
        have HJ : Hid (i = d.pend.length ∨ i = ns.length) := .inr (by rw [HC.out.2.2]; exact hbr)
        obtain ⟨V1, hcl, hp1, HE⟩ := re_tail HR'.out HDW.out HJ.out
        have s6 : V1.cell? ⟨p, 6, none⟩ = some (.bool d.crashed) := cell_of hp1 rfl
        have f6 : V1.frozen? ⟨p, 6, none⟩ = false := frozen_of hp1
        have s4 : (V1.setCell ⟨p, 6, none⟩ (.bool false)).cell? ⟨p, 4, none⟩ = some (.bool d.armed) := cell_of (heap_set _ hp1) rfl
        have f4 : (V1.setCell ⟨p, 6, none⟩ (.bool false)).frozen? ⟨p, 4, none⟩ = false := frozen_of (heap_set _ hp1)
        have s5 : ((V1.setCell ⟨p, 6, none⟩ (.bool false)).setCell ⟨p, 4, none⟩ (.bool false)).cell? ⟨p, 5, none⟩ = some (.int .i64 d.left) := cell_of (heap_set _ (heap_set _ hp1)) rfl
        have f5 : ((V1.setCell ⟨p, 6, none⟩ (.bool false)).setCell ⟨p, 4, none⟩ (.bool false)).frozen? ⟨p, 5, none⟩ = false := frozen_of (heap_set _ (heap_set _ hp1))
        have HE2 := Lib.hid (And.intro HE.out.1 (HF.out.trans HE.out.2))
        clear hp1 HE HDW HR HR'
        clear hbr
        have c3w : (wr.alloc (.cells #[.int .i64 x1, .int .i64 x2] 132)).cell? ⟨p, 3, none⟩ = some (.map (some bb)) := by rw [← HVV.out]; exact c3'
        go_wp2_with (first | (rw [← HVV.out]; refine wpList_clear rfl _ 69 rfl _ rfl (hcl _) ?_) | fail)
        go_end0
        exact ⟨rfl, HE2.out⟩
      · have hbr' : ((i : Int) == (n : Int)) = false := by simp; omega
        have hin' : (i : Int) < (n : Int) := by omega
        have hi0 : (0 : Int) ≤ (i : Int) := by omega
        obtain ⟨cb, co, hca, ec⟩ := HCW.out i (by rw [HC.out.2.2]; omega)
        have hcbp := HC.out.2.1 cb co hca
        have hci : ns[i]? = some (ns[i]'(by rw [HC.out.2.2]; omega)) := List.getElem?_eq_getElem _
        have ec' : V.cell? ⟨cb, co + i, none⟩ = some (.int .i64 (ns[i]'(by rw [HC.out.2.2]; omega))) := HR'.out.fd.cell HDW.out ec hcbp
        generalize ns[i]'(by rw [HC.out.2.2]; omega) = ni at *
        have HCI := Lib.hid hci
        subst hca
        clear ec hci hbr
        have hmem : ((x1, x2), xc) ∈ d.pend := List.mem_of_getElem? HX.out
        have hinx : inP (x1, x2) := HI.out _ hmem
        have hxl : xc.length = 64 := (HDW.out.ok.pend _ hmem).1
        have hget : getP d.pend (x1, x2) = some xc := getP_of_mem HDW.out.ok.srt hmem
        obtain ⟨q, E, s1, s2, s3⟩ := HR'.out.safe
        obtain ⟨np2, D2, t1, t2, _⟩ := HDW.out.pend
        have hVs : W.heap.size ≤ V.heap.size := HR'.out.fd.size
        have lts := HDW.out.lts
        have hwrV : wr.heap.size < V.heap.size := blk_lt HpV.out
        have hwrs : W.heap.size ≤ wr.heap.size := HR.out.fd.size
        have hcba : cb ≠ aa := fun e => by
          obtain ⟨es, cl, hm, _⟩ := s1
          obtain ⟨c', t', z', hb'⟩ := cells_of ec'
          rw [e, hm] at hb'; cases hb'
        have t1' : V.ownsMap Tryz.prog 132 ctE bb np2 D2 := owns_keep t1 HR'.out.pend
        have FP2 : Hid (∀ U, V.grownBy U (some aa) → U.cell? ⟨p, 2, none⟩ = some (.map (some aa))) := fun U hU => grown_cell hU c2' HD.out.pa
        have FP3 : Hid (∀ U, V.grownBy U (some aa) → U.cell? ⟨p, 3, none⟩ = some (.map (some bb))) := fun U hU => grown_cell hU c3' HD.out.pa
        have FP0 : Hid (∀ U, V.grownBy U (some aa) → U.cell? ⟨wr.heap.size, 0, none⟩ = some (.int .i64 x1)) := fun U hU => grown_cell hU (cell_of HpV.out rfl) (by omega)
        have FP1 : Hid (∀ U, V.grownBy U (some aa) → U.cell? ⟨wr.heap.size, 1, none⟩ = some (.int .i64 x2)) := fun U hU => grown_cell hU (cell_of HpV.out rfl) (by omega)
        have FPC : Hid (∀ U, V.grownBy U (some aa) → U.cell? ⟨cb, co + i, none⟩ = some (.int .i64 ni)) := fun U hU => grown_cell hU ec' hcba
        have FQ : Hid (∀ U, V.grownBy U (some aa) → (Instr.lookup 69 (.map (some bb)) (.agg #[.int .i64 x1, .int .i64 x2]) false).run Tryz.prog U = .ok (ctV xc) U) := fun U hU =>
          look_own (k := (x1, x2)) (owns_keep t1' (hU.block bb t1'.lt (fun e => HD.out.ne (by cases e; rfl)))) hinx (by rw [pend_at t2 hinx, hget]; rfl)
        obtain ⟨sc, hsc⟩ : ∃ sc, goR d.safe (d.pend.take i) (ns.take i) (x1, x2) = sc := ⟨_, rfl⟩
        have hscl : sc.length = 64 := by rw [← hsc]; exact (okC_goR _ _ _ (fun y hy => HDW.out.ok.pend y (List.mem_of_mem_take hy)) HDW.out.ok.safe _).1
        have hlk : (Instr.lookup 69 (.map (some aa)) (.agg #[.int .i64 x1, .int .i64 x2]) false).run Tryz.prog V.drew = .ok (ctV sc) V.drew := look_own (k := (x1, x2)) s1.drew hinx (by rw [s2 _ hinx, hsc])
        have HCH : Hid (∀ U, Calls Tryz.prog 69 #[.int .i64 ni, ctV xc, ctV sc] U fun e w' => e = .returned (ctV (chosenC ni xc sc)) ∧ Below U.heap.size U w') := fun U => chosen_ ni xc sc U hxl hscl
        have HG2 : Hid (∀ U, Below V.heap.size V U → ∃ U', (Instr.mapUpdate 69 (.map (some aa)) (.agg #[.int .i64 x1, .int .i64 x2]) (ctV (chosenC ni xc sc))).run Tryz.prog U = .ok () U' ∧ V.grownBy U' (some aa) ∧ ReIn W p aa bb d ns K (i + 1) U') := by
          intro U hU
          have hRU := HR'.out.on HDW.out hU
          have s1U : U.ownsMap Tryz.prog 132 ctE aa q E := owns_keep s1 (hU.block aa s1.lt)
          obtain ⟨U', hrun, hown', hturn⟩ := s1U.store (t := 69) keyed Tryz.underlying69 (by unfold maxLen; omega) (key_ (x1, x2) hinx) (ctE_ct (chosenC ni xc sc))
          have hfar : ∀ k, k < U.heap.size → k ≠ aa → U'.heap[k]? = U.heap[k]? := fun k hk hne => hturn.grown.block k hk (fun e => hne (by cases e; rfl))
          have hUs := hU.size
          refine ⟨U', hrun, grown_turned (below_grown hU _) hturn, (hfar p (by omega) HD.out.pa).trans hRU.blk, (hfar bb (by omega) (Ne.symm HD.out.ne)).trans hRU.pend, ⟨q + 1, _, hown', ?_, by rw [HL.out] at s3 ⊢; omega⟩, hRU.fd.trans (turned_fd hturn (.inl rfl))⟩
          rw [goR_step d.safe d.pend ns i _ ni HX.out HCI.out, hsc]
          exact s2.put s1.isMap hinx _
        clear s1 s2 s3 t1 t2 t1' hget hmem hsc
        go_wp2_with fail
        rw [← HVV.out]
        refine wp_region_noPanic ?_
        refine wp_region_held_drew (S := fun U => V.grownBy U (some aa)) (by kernel_rfl) (grown_drew _ _) (fun hHeld => ?_)
        refine take_at 0 (.pointer (some ⟨p, 0, none⟩)) rfl (by kernel_rfl) (by kernel_rfl) (by kernel_rfl) (fun _ _ _ h => h) (Or.inl ⟨by rfl, ?_⟩) (by assumption) ?_
        · intro V hSV; go_simp
        simp only [Act.put, List.setIfInBounds_toArray, List.set_cons_zero, List.set_cons_succ]
        refine take_at 1 (.pointer (some ⟨p, 0, none⟩)) rfl (by kernel_rfl) (by kernel_rfl) (by kernel_rfl) (fun _ _ _ h => h) (Or.inl ⟨by rfl, ?_⟩) (by assumption) ?_
        · intro V hSV; go_simp
        simp only [Act.put, List.setIfInBounds_toArray, List.set_cons_zero, List.set_cons_succ]
        refine take_at 2 (.pointer (some ⟨p, 2, none⟩)) rfl (by kernel_rfl) (by kernel_rfl) (by kernel_rfl) (fun _ _ _ h => h) (Or.inl ⟨by rfl, ?_⟩) (by assumption) ?_
        · intro V hSV; go_simp
        simp only [Act.put, List.setIfInBounds_toArray, List.set_cons_zero, List.set_cons_succ]
        refine take_at 3 (.map (some aa)) rfl (by kernel_rfl) (by kernel_rfl) (by kernel_rfl) (fun _ _ _ h => h) (Or.inl ⟨by rfl, ?_⟩) (by assumption) ?_
        · intro V hSV; have e0 := FP2.out V hSV; go_simp
        simp only [Act.put, List.setIfInBounds_toArray, List.set_cons_zero, List.set_cons_succ]
        refine take_at 4 (.agg #[.int .i64 x1, .int .i64 x2]) rfl (by kernel_rfl) (by kernel_rfl) (by kernel_rfl) (fun _ _ _ h => h) (Or.inl ⟨by rfl, ?_⟩) (by assumption) ?_
        · intro V hSV; have e0 := FP0.out V hSV; have e1 := FP1.out V hSV; go_simp
        simp only [Act.put, List.setIfInBounds_toArray, List.set_cons_zero, List.set_cons_succ]
        refine take_at 5 (.slice (some ⟨cb, co, none⟩) n c) rfl (by kernel_rfl) (by kernel_rfl) (by kernel_rfl) (fun _ _ _ h => h) (Or.inl ⟨by rfl, ?_⟩) (by assumption) ?_
        · intro V hSV; go_simp
        simp only [Act.put, List.setIfInBounds_toArray, List.set_cons_zero, List.set_cons_succ]
        refine take_at 6 (.int .i64 i) rfl (by kernel_rfl) (by kernel_rfl) (by kernel_rfl) (fun _ _ _ h => h) (Or.inl ⟨by rfl, ?_⟩) (by assumption) ?_
        · intro V hSV; go_simp
        simp only [Act.put, List.setIfInBounds_toArray, List.set_cons_zero, List.set_cons_succ]
        refine take_at 7 (.pointer (some ⟨cb, co + i, none⟩)) rfl (by kernel_rfl) (by kernel_rfl) (by kernel_rfl) (fun _ _ _ h => h) (Or.inl ⟨by rfl, ?_⟩) (by assumption) ?_
        · intro V hSV; go_simp
        simp only [Act.put, List.setIfInBounds_toArray, List.set_cons_zero, List.set_cons_succ]
        refine take_at 8 (.int .i64 ni) rfl (by kernel_rfl) (by kernel_rfl) (by kernel_rfl) (fun _ _ _ h => h) (Or.inl ⟨by rfl, ?_⟩) (by assumption) ?_
        · intro V hSV; have e0 := FPC.out V hSV; go_simp
        simp only [Act.put, List.setIfInBounds_toArray, List.set_cons_zero, List.set_cons_succ]
        refine take_at 9 (.pointer (some ⟨p, 0, none⟩)) rfl (by kernel_rfl) (by kernel_rfl) (by kernel_rfl) (fun _ _ _ h => h) (Or.inl ⟨by rfl, ?_⟩) (by assumption) ?_
        · intro V hSV; go_simp
        simp only [Act.put, List.setIfInBounds_toArray, List.set_cons_zero, List.set_cons_succ]
        refine take_at 10 (.pointer (some ⟨p, 0, none⟩)) rfl (by kernel_rfl) (by kernel_rfl) (by kernel_rfl) (fun _ _ _ h => h) (Or.inl ⟨by rfl, ?_⟩) (by assumption) ?_
        · intro V hSV; go_simp
        simp only [Act.put, List.setIfInBounds_toArray, List.set_cons_zero, List.set_cons_succ]
        refine take_at 11 (.pointer (some ⟨p, 3, none⟩)) rfl (by kernel_rfl) (by kernel_rfl) (by kernel_rfl) (fun _ _ _ h => h) (Or.inl ⟨by rfl, ?_⟩) (by assumption) ?_
        · intro V hSV; go_simp
        simp only [Act.put, List.setIfInBounds_toArray, List.set_cons_zero, List.set_cons_succ]
        refine take_at 12 (.map (some bb)) rfl (by kernel_rfl) (by kernel_rfl) (by kernel_rfl) (fun _ _ _ h => h) (Or.inl ⟨by rfl, ?_⟩) (by assumption) ?_
        · intro V hSV; have e0 := FP3.out V hSV; go_simp
        simp only [Act.put, List.setIfInBounds_toArray, List.set_cons_zero, List.set_cons_succ]
        refine take_at 13 (.agg #[.int .i64 x1, .int .i64 x2]) rfl (by kernel_rfl) (by kernel_rfl) (by kernel_rfl) (fun _ _ _ h => h) (Or.inl ⟨by rfl, ?_⟩) (by assumption) ?_
        · intro V hSV; have e0 := FP0.out V hSV; have e1 := FP1.out V hSV; go_simp
        simp only [Act.put, List.setIfInBounds_toArray, List.set_cons_zero, List.set_cons_succ]
        refine take_at 14 (ctV xc) rfl (by kernel_rfl) (by kernel_rfl) (by kernel_rfl) (fun _ _ _ h => h) (yields_lookup (by rfl) 69 _ _ false (by rfl) _ _ _ (by rfl) (by rfl) (FQ.out)) (by assumption) ?_
        simp only [Act.put, List.setIfInBounds_toArray, List.set_cons_zero, List.set_cons_succ]
        refine take_at 15 (.pointer (some ⟨p, 0, none⟩)) rfl (by kernel_rfl) (by kernel_rfl) (by kernel_rfl) (fun _ _ _ h => h) (Or.inl ⟨by rfl, ?_⟩) (by assumption) ?_
        · intro V hSV; go_simp
        simp only [Act.put, List.setIfInBounds_toArray, List.set_cons_zero, List.set_cons_succ]
        refine take_at 16 (.pointer (some ⟨p, 0, none⟩)) rfl (by kernel_rfl) (by kernel_rfl) (by kernel_rfl) (fun _ _ _ h => h) (Or.inl ⟨by rfl, ?_⟩) (by assumption) ?_
        · intro V hSV; go_simp
        simp only [Act.put, List.setIfInBounds_toArray, List.set_cons_zero, List.set_cons_succ]
        refine take_at 17 (.pointer (some ⟨p, 2, none⟩)) rfl (by kernel_rfl) (by kernel_rfl) (by kernel_rfl) (fun _ _ _ h => h) (Or.inl ⟨by rfl, ?_⟩) (by assumption) ?_
        · intro V hSV; go_simp
        simp only [Act.put, List.setIfInBounds_toArray, List.set_cons_zero, List.set_cons_succ]
        refine take_at 18 (.map (some aa)) rfl (by kernel_rfl) (by kernel_rfl) (by kernel_rfl) (fun _ _ _ h => h) (Or.inl ⟨by rfl, ?_⟩) (by assumption) ?_
        · intro V hSV; have e0 := FP2.out V hSV; go_simp
        simp only [Act.put, List.setIfInBounds_toArray, List.set_cons_zero, List.set_cons_succ]
        refine take_at 19 (.agg #[.int .i64 x1, .int .i64 x2]) rfl (by kernel_rfl) (by kernel_rfl) (by kernel_rfl) (fun _ _ _ h => h) (Or.inl ⟨by rfl, ?_⟩) (by assumption) ?_
        · intro V hSV; have e0 := FP0.out V hSV; have e1 := FP1.out V hSV; go_simp
        simp only [Act.put, List.setIfInBounds_toArray, List.set_cons_zero, List.set_cons_succ]
        refine ready_lookup 20 rfl (by kernel_rfl) (by rfl) 69 _ _ false (by rfl) _ _ _ (by rfl) (by rfl) hlk hHeld ?_
        simp only [Act.put, List.setIfInBounds_toArray, List.set_cons_zero, List.set_cons_succ]
        refine wpAnyH_ready (rs := [21]) (by kernel_rfl) (by simp) ?_
        refine AllReadyH.cons rfl (fun KK hK => ?_) AllReadyH.nil
        go_simp
        go_wp2_with (first | (go_at_call 69; refine (HCH.out _).mono ?_; rintro e w2 ⟨rfl, hb2⟩))
        refine hK.out _ _ ?_ (fun hHeld21 => ?_)
        · exact grown_below (by assumption) hb2
        clear hK KK
        obtain ⟨U', hrun, hg', hR2⟩ := HG2.out w2 (below_step (below_drew V) hb2)
        refine ready_update 22 rfl (by kernel_rfl) (by rfl) 69 _ _ _ rfl _ _ _ rfl rfl rfl hrun hg' ?_
        refine wpAnyH_done (by kernel_rfl) ?_ _
        refine NoPanic.normal ?_
        have HR2 := Lib.hid hR2
        clear hrun hg' hR2 hb2 HG2 HCH FP0 FP1 FP2 FP3 FPC FQ hlk hHeld hHeld21 HR HR'
        simp only [Act.put]
        go_wp2_with fail
        go_roundw
        case rel => exact ⟨i + 1, by go_num, by omega, by omega, HR2.out⟩
        case measure => simp [intOf]; omega
end Go.Proofs.YtjnhcanohefjiaaGreatDoor
